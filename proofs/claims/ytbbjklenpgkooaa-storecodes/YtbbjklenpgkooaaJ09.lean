/-
  6 texts of this proof, one behind the other: DkKeep, DkCrash, DkAwake, MxOrders, JoSmall, JoFive.
-/
import Derived.Test.YtbbjklenpgkooaaJ08
import Derived.Laws.BitsAllLaws
import Derived.OrdersHeld
import Derived.Deep.RegionHeld3
import Derived.Laws.ResultCell
/-
  What keep and forget of a disk do, the inner steps of Flush and Crash: contracts over plain numbers ('DkPlain').
  Conditions: the disk is one that New gave ('PDk').
-/
namespace Go.Proofs.Ytbbjklenpgkooaa
open Go.RowKit By Dk
set_option linter.unusedVariables false
set_option linter.unusedSimpArgs false
set_option maxRecDepth 100000

theorem put_over (f d : Nat → Nat) (a s k : Nat) (h : k < s) : over (fun i => Value.int .u8 (f i : Int)) (64 * a) 64 (fun j => .int .u8 (d j : Int)) k = .int .u8 (put f a d k : Int) := by
  unfold over put
  by_cases e : 64 * a ≤ k ∧ k < 64 * a + 64
  · rw [if_pos e, if_pos (by omega), show k - 64 * a = k % 64 by omega]
  · rw [if_neg e, if_neg (by omega)]

set_option maxHeartbeats 1000000 in
theorem keep_any (p gs gn n s m i : Nat) (F : Nat → Prop) (R : Value) (f A : Nat → Nat) (D : Nat → Nat → Nat) (q : Nat → Nat) (w : World) (h : PDk w F p gs gn R n s m f A D q) (hi : i < m) :
    Calls Try.prog 41 #[.pointer (some ⟨p, 0, none⟩), .pointer (some ⟨q i, 0, none⟩)] w fun e w' => e = .returned (.tuple #[]) ∧ Turns F w w' ∧ PDk w' F p gs gn R n s m (put f (A i) (D i)) A D q := by
  have hq := h.wr i hi
  have ha := h.at_ i hi
  have hlen := h.len
  have hd := h.drew
  have hsec : Calls Try.prog 62 #[.pointer (some ⟨p, 0, none⟩), .int .i64 (A i : Int)] w.drew fun e w' => e = .returned (.slice (some ⟨gs, 64 * A i, none⟩) 64 (s - 64 * A i)) ∧ w' = w.drew := sector_any p gs s n (A i) _ rfl w.drew hd.c0 h.len ha h.n2
  obtain ⟨w2, hcp, b2, t2, s2⟩ := copy_blk w.drew gs (64 * A i) (s - 64 * A i) s 64 64 (q i) 1 5 _ (fun j => .int .u8 (D i j : Int)) hd.safe (by omega) (fun j hj => by
    have := (hd.wr i hi).cell (k := 1 + j) (by omega)
    rw [this]
    simp [wrV, Nat.add_comm]) (fun _ => rfl)
  have qgs : q i ≠ gs := hq.ne h.safe (by decide)
  have hat : w.drew.cell? ⟨q i, 0, none⟩ = some (.int .i64 (A i : Int)) := (hd.wr i hi).cell (k := 0) (by omega)
  have hat2 : w2.cell? ⟨q i, 0, none⟩ = some (.int .i64 (A i : Int)) := ((hd.wr i hi).of_heap (t2.block _ (hd.wr i hi).lt qgs)).cell (k := 0) (by omega)
  have T : Turns F w w2 := ⟨t2.os, t2.tape, t2.output, t2.size, fun k hk hF => t2.block k hk (fun e => hF (by rw [e]; exact h.fs))⟩
  have keep : ∀ k, k < w.heap.size → k ≠ gs → w2.heap[k]? = w.heap[k]? := fun k hk hg => t2.block k hk hg
  have HF : Hid (Turns F w w2 ∧ PDk w2 F p gs gn R n s m (put f (A i) (D i)) A D q) := ⟨T,
    ⟨h.obj.of_heap (keep _ h.obj.lt (h.obj.ne h.safe (by decide))), b2.congr fun k hk => put_over f (D i) (A i) s k hk, h.near.of_heap (keep _ h.near.lt (h.near.ne h.safe (by decide))),
      ownsRow_same h.own (fun k hk => keep k (h.own.lt k hk).2 (fun e => ownsRow_ne h.own h.safe (by decide) (by rw [hk, e]))), fun j hj => (h.wr j hj).of_heap (keep _ (h.wr j hj).lt ((h.wr j hj).ne h.safe (by decide))),
      h.at_, h.len, h.rn, h.fp, h.fs, h.fn, h.fq, h.fR, fun k => by unfold put; split; exact h.ltD _ _; exact h.lt k, h.ltD, fun k hk => by rw [s2]; exact h.flt k hk, h.n1, h.n2, h.m2⟩⟩
  have hca : ∀ v, _ := fun v => cut_arr (q i) v
  generalize q i = b at *
  generalize A i = a at *
  generalize 64 * a = o at *
  generalize s - o = c at *
  clear h hq hd b2 t2 s2 T keep qgs hlen ha
  go_enter Try.func41, Try.ntmps41
  go_wp2_with fail
  refine wp_region_held_drew (S := fun v => v.cell? ⟨b, 0, none⟩ = some (.int .i64 (a : Int))) (by kernel_rfl) hat (fun hHeld => ?_)
  refine wpAnyH_take (i := 0) (v := ?_) rfl (by kernel_rfl) (by kernel_rfl) (by kernel_rfl) (fun _ _ _ h => h) (Or.inl ⟨by rfl, ?_⟩) (by assumption) ?_
  case refine_2 => (intro w hSw; (try dsimp only at hSw); go_simp; (try with_reducible rfl))
  (try simp only [Act.put, List.getElem_toArray, List.getElem_cons_succ, List.getElem_cons_zero, List.setIfInBounds_toArray, List.set_cons_zero, List.set_cons_succ])
  refine wpAnyH_take (i := 1) (v := ?_) rfl (by kernel_rfl) (by kernel_rfl) (by kernel_rfl) (fun _ _ _ h => h) (Or.inl ⟨by rfl, ?_⟩) (by assumption) ?_
  case refine_2 => (intro w hSw; (try dsimp only at hSw); go_simp; (try with_reducible rfl))
  (try simp only [Act.put, List.getElem_toArray, List.getElem_cons_succ, List.getElem_cons_zero, List.setIfInBounds_toArray, List.set_cons_zero, List.set_cons_succ])
  refine wpAnyH_take (i := 2) (v := ?_) rfl (by kernel_rfl) (by kernel_rfl) (by kernel_rfl) (fun _ _ _ h => h) (Or.inl ⟨by rfl, ?_⟩) (by assumption) ?_
  case refine_2 => (intro w hSw; (try dsimp only at hSw); go_simp; (try with_reducible rfl))
  (try simp only [Act.put, List.getElem_toArray, List.getElem_cons_succ, List.getElem_cons_zero, List.setIfInBounds_toArray, List.set_cons_zero, List.set_cons_succ])
  refine wpAnyH_take (i := 3) (v := ?_) rfl (by kernel_rfl) (by kernel_rfl) (by kernel_rfl) (fun _ _ _ h => h) (Or.inl ⟨by rfl, ?_⟩) (by assumption) ?_
  case refine_2 => (intro w hSw; (try dsimp only at hSw); go_simp; (try with_reducible rfl))
  (try simp only [Act.put, List.getElem_toArray, List.getElem_cons_succ, List.getElem_cons_zero, List.setIfInBounds_toArray, List.set_cons_zero, List.set_cons_succ])
  refine wpAnyH_take (i := 4) (v := ?_) rfl (by kernel_rfl) (by kernel_rfl) (by kernel_rfl) (fun _ _ _ h => h) (Or.inl ⟨by rfl, ?_⟩) (by assumption) ?_
  case refine_2 => (intro w hSw; (try dsimp only at hSw); go_simp; (try with_reducible rfl))
  (try simp only [Act.put, List.getElem_toArray, List.getElem_cons_succ, List.getElem_cons_zero, List.setIfInBounds_toArray, List.set_cons_zero, List.set_cons_succ])
  refine wpAnyH_take (i := 6) (v := ?_) rfl (by kernel_rfl) (by kernel_rfl) (by kernel_rfl) (fun _ _ _ h => h) (Or.inl ⟨by rfl, ?_⟩) (by assumption) ?_
  case refine_2 => (intro w hSw; (try dsimp only at hSw); go_simp; (try with_reducible rfl))
  (try simp only [Act.put, List.getElem_toArray, List.getElem_cons_succ, List.getElem_cons_zero, List.setIfInBounds_toArray, List.set_cons_zero, List.set_cons_succ])
  refine wpAnyH_take (i := 7) (v := ?_) rfl (by kernel_rfl) (by kernel_rfl) (by kernel_rfl) (fun _ _ _ h => h) (Or.inl ⟨by rfl, ?_⟩) (by assumption) ?_
  case refine_2 => (intro w hSw; (try dsimp only at hSw); go_simp; (try with_reducible rfl))
  (try simp only [Act.put, List.getElem_toArray, List.getElem_cons_succ, List.getElem_cons_zero, List.setIfInBounds_toArray, List.set_cons_zero, List.set_cons_succ])
  refine wpAnyH_take (i := 8) (v := ?_) rfl (by kernel_rfl) (by kernel_rfl) (by kernel_rfl) (fun _ _ _ h => h) (Or.inl ⟨by rfl, ?_⟩) (by assumption) ?_
  case refine_2 => (intro w hSw; (try dsimp only at hSw); go_simp; (try with_reducible rfl))
  (try simp only [Act.put, List.getElem_toArray, List.getElem_cons_succ, List.getElem_cons_zero, List.setIfInBounds_toArray, List.set_cons_zero, List.set_cons_succ])
  refine wpAnyH_take (i := 9) (v := ?_) rfl (by kernel_rfl) (by kernel_rfl) (by kernel_rfl) (fun _ _ _ h => h) (Or.inl ⟨by rfl, ?_⟩) (by assumption) ?_
  case refine_2 => (intro w hSw; (try dsimp only at hSw); go_simp; (try with_reducible rfl))
  (try simp only [Act.put, List.getElem_toArray, List.getElem_cons_succ, List.getElem_cons_zero, List.setIfInBounds_toArray, List.set_cons_zero, List.set_cons_succ])
  refine wpAnyH_ready (rs := [5]) (by kernel_rfl) (by simp) ?_
  refine AllReadyH.cons rfl (fun K hK => ?_) AllReadyH.nil
  go_simp
  refine hsec.mono ?_
  rintro e v ⟨rfl, rfl⟩
  refine hK.out _ _ hat (fun hHeld => ?_)
  clear hK K
  refine wpAnyH_ready (rs := [10]) (by kernel_rfl) (by simp) ?_
  refine AllReadyH.cons rfl (fun K hK => ?_) AllReadyH.nil
  go_simp
  refine hK.out _ _ hat2 (fun hHeld => ?_)
  clear hK K
  refine wpAnyH_done (by kernel_rfl) ?_ _
  go_wp2_with fail
  refine bodyPost_end (results_none rfl _ _ _) rfl ?_
  exact ⟨rfl, HF.out⟩

def goneV (q A : Nat → Nat) (m k : Nat) : Nat → Value := fun j => if last A j k ≠ 0 then .pointer none else nearV q A m j

theorem gone_step (q A : Nat → Nat) (m k j : Nat) : upd (goneV q A m k) (A k) (.pointer none) j = goneV q A m (k + 1) j := by
  unfold upd goneV
  rw [last]
  by_cases e : j = A k
  · subst e; simp
  · rw [if_neg e, if_neg (fun h : A k = j => e h.symm)]

theorem gone_all (q A : Nat → Nat) (m j : Nat) : goneV q A m m j = .pointer none := by
  unfold goneV nearV
  by_cases e : last A j m = 0
  · simp [e]
  · simp [e]

theorem pd_forget {w wr : World} {F : Nat → Prop} {p gs gn : Nat} {R : Value} {n s m : Nat} {f A : Nat → Nat} {D : Nat → Nat → Nat} {q : Nat → Nat} (h : PDk w F p gs gn R n s m f A D q) (T : Turns (fun k => k = gn) w wr) (hb : Blk wr gn 78 n (goneV q A m m)) :
    Turns F w (wr.setCell ⟨p, 1, none⟩ (.slice none 0 0)) ∧ Pd (wr.setCell ⟨p, 1, none⟩ (.slice none 0 0)) F p n 0 f A D := by
  have pgn : p ≠ gn := h.obj.ne h.near (by decide)
  have T' : Turns F w wr := T.weak (fun k hk => by rw [hk]; exact h.fn)
  have T2 := T'.setCell (p := ⟨p, 1, none⟩) (.inl h.fp) (.slice none 0 0)
  refine ⟨T2, gs, gn, .slice none 0 0, s, q, ⟨((h.obj.of_heap (T.block _ h.obj.lt pgn)).set 1 (.slice none 0 0)).congr fun k hk => ?_, ?_, ?_, ⟨rfl, .inl ⟨rfl, rfl⟩⟩, fun i hi => by omega, fun i hi => by omega, h.len, by simp [Value.ownBlock], h.fp, h.fs, h.fn, fun i hi => by omega, fun g hg => by simp [Value.ownBlock] at hg, h.lt, h.ltD, fun k hk => Nat.lt_of_lt_of_le (h.flt k hk) T2.size, h.n1, h.n2, by omega⟩⟩
  · unfold upd obj3
    by_cases e : k = 1
    · simp [e]
    · simp [e]
  · exact (h.safe.of_heap (T.block _ h.safe.lt (h.safe.ne h.near (by decide)))).of_heap (Below.heap_setCell _ _ _ _ (h.safe.ne h.obj (by decide)))
  · exact (hb.of_heap (Below.heap_setCell _ _ _ _ (Ne.symm pgn))).congr fun k hk => gone_all q A m k

set_option maxHeartbeats 1000000 in
theorem forget_any (p n m : Nat) (F : Nat → Prop) (f A : Nat → Nat) (D : Nat → Nat → Nat) (w : World) (h : Pd w F p n m f A D) :
    Calls Try.prog 42 #[.pointer (some ⟨p, 0, none⟩)] w fun e w' => e = .returned (.tuple #[]) ∧ Turns F w w' ∧ Pd w' F p n 0 f A D := by
  obtain ⟨gs, gn, R, s, q, h⟩ := h
  obtain ⟨x, c, hR, hle, hnil, hrow⟩ := ownsRow_form h.own
  subst hR
  have k1 := h.c1
  have hm2 := h.m2
  have pgn : p ≠ gn := h.obj.ne h.near (by decide)
  have H := hid h
  clear h
  go_enter Try.func42, Try.ntmps42
  go_wp2_with fail
  go_loopw [9] (fun i wr => ∃ k : Nat, k ≤ m ∧ i = .int .i64 k ∧ Hid (Turns (fun j => j = gn) w wr ∧ Blk wr gn 78 n (goneV q A m k))) (fun i _ => m - (intOf i).toNat)
  case atStart => exact ⟨0, by omega, rfl, Turns.refl _ _, H.out.near.congr fun j hj => by simp [goneV, last]⟩
  case round =>
    obtain ⟨k, hk, rfl, HR⟩ := hrel
    clear k1
    obtain ⟨T, hb⟩ := HR.out
    by_cases hlt : k < m
    · have hkm : (k : Int) < (m : Int) := by omega
      rcases hrow with h0 | ⟨g, rfl, hcells⟩
      · omega
      have hc := hcells k _ (rowOf_get _ m k hlt)
      have hgR : g < w.heap.size ∧ g ≠ gn := ⟨(H.out.own.lt g rfl).2, fun e => H.out.rn (by rw [← e]; rfl)⟩
      have c1 : wr.cell? ⟨g, 0 + k, none⟩ = some (.pointer (some ⟨q k, 0, none⟩)) := (World.cell?_of_block (a := ⟨g, 0 + k, none⟩) (T.block g hgR.1 hgR.2)).trans hc
      rw [Nat.zero_add] at c1
      have bq := (T.blk (H.out.wr k hlt) ((H.out.wr k hlt).ne H.out.near (by decide)))
      have bo := T.blk H.out.obj pgn
      have ha := H.out.at_ k hlt
      have c2 : wr.cell? ⟨p, 2, none⟩ = some (.slice (some ⟨gn, 0, none⟩) n n) := bo.cell (k := 2) (by omega)
      have c3 : wr.cell? ⟨q k, 0, none⟩ = some (.int .i64 (A k : Int)) := bq.cell (k := 0) (by omega)
      have c4 := hb.cell ha
      have f4 := hb.frozen (A k)
      have hb2 := hb.set (A k) (.pointer none)
      have d2 : (wr.setCell ⟨gn, A k, none⟩ (.pointer none)).cell? ⟨p, 2, none⟩ = some (.slice (some ⟨gn, 0, none⟩) n n) := (World.cell?_of_block (a := ⟨p, 2, none⟩) (Below.heap_setCell _ _ _ _ pgn)).trans c2
      have d3 : (wr.setCell ⟨gn, A k, none⟩ (.pointer none)).cell? ⟨q k, 0, none⟩ = some (.int .i64 (A k : Int)) := (World.cell?_of_block (a := ⟨q k, 0, none⟩) (Below.heap_setCell _ _ _ _ (bq.ne hb (by decide)))).trans c3
      have HN : Hid (Turns (fun j => j = gn) w (wr.drew.setCell ⟨gn, A k, none⟩ (.pointer none)) ∧ Blk (wr.drew.setCell ⟨gn, A k, none⟩ (.pointer none)) gn 78 n (goneV q A m (k + 1))) :=
        ⟨T.drew.setCell (p := ⟨gn, A k, none⟩) (.inl rfl) _, (Blk.set (w := wr.drew) hb (A k) (.pointer none)).congr fun j hj => gone_step q A m k j⟩
      clear T hb HR hcells hc bq bo hb2
      generalize goneV q A m k (A k) = V at *
      generalize A k = a at *
      generalize q k = b at *
      go_wp2_with fail
      refine wp_region_held_drew (S := fun v => v.cell? ⟨p, 2, none⟩ = some (.slice (some ⟨gn, 0, none⟩) n n) ∧ v.cell? ⟨b, 0, none⟩ = some (.int .i64 (a : Int))) (by kernel_rfl) ⟨c2, c3⟩ (fun hHeld => ?_)
      refine wpAnyH_take (i := 0) (v := ?_) rfl (by kernel_rfl) (by kernel_rfl) (by kernel_rfl) (fun _ _ _ h => h) (Or.inl ⟨by rfl, ?_⟩) (by assumption) ?_
      case refine_2 => (intro w hSw; (try dsimp only at hSw); go_simp; (try with_reducible rfl))
      (try simp only [Act.put, List.getElem_toArray, List.getElem_cons_succ, List.getElem_cons_zero, List.setIfInBounds_toArray, List.set_cons_zero, List.set_cons_succ])
      refine wpAnyH_take (i := 1) (v := ?_) rfl (by kernel_rfl) (by kernel_rfl) (by kernel_rfl) (fun _ _ _ h => h) (Or.inl ⟨by rfl, ?_⟩) (by assumption) ?_
      case refine_2 => (intro w hSw; (try dsimp only at hSw); go_simp; (try with_reducible rfl))
      (try simp only [Act.put, List.getElem_toArray, List.getElem_cons_succ, List.getElem_cons_zero, List.setIfInBounds_toArray, List.set_cons_zero, List.set_cons_succ])
      refine wpAnyH_take (i := 2) (v := ?_) rfl (by kernel_rfl) (by kernel_rfl) (by kernel_rfl) (fun _ _ _ h => h) (Or.inl ⟨by rfl, ?_⟩) (by assumption) ?_
      case refine_2 => (intro w hSw; (try dsimp only at hSw); go_simp; (try with_reducible rfl))
      (try simp only [Act.put, List.getElem_toArray, List.getElem_cons_succ, List.getElem_cons_zero, List.setIfInBounds_toArray, List.set_cons_zero, List.set_cons_succ])
      refine wpAnyH_take (i := 3) (v := ?_) rfl (by kernel_rfl) (by kernel_rfl) (by kernel_rfl) (fun _ _ _ h => h) (Or.inl ⟨by rfl, ?_⟩) (by assumption) ?_
      case refine_2 => (intro w hSw; (try dsimp only at hSw); go_simp; (try with_reducible rfl))
      (try simp only [Act.put, List.getElem_toArray, List.getElem_cons_succ, List.getElem_cons_zero, List.setIfInBounds_toArray, List.set_cons_zero, List.set_cons_succ])
      refine wpAnyH_take (i := 4) (v := ?_) rfl (by kernel_rfl) (by kernel_rfl) (by kernel_rfl) (fun _ _ _ h => h) (Or.inl ⟨by rfl, ?_⟩) (by assumption) ?_
      case refine_2 => (intro w hSw; (try dsimp only at hSw); go_simp; (try with_reducible rfl))
      (try simp only [Act.put, List.getElem_toArray, List.getElem_cons_succ, List.getElem_cons_zero, List.setIfInBounds_toArray, List.set_cons_zero, List.set_cons_succ])
      refine wpAnyH_take (i := 5) (v := ?_) rfl (by kernel_rfl) (by kernel_rfl) (by kernel_rfl) (fun _ _ _ h => h) (Or.inl ⟨by rfl, ?_⟩) (by assumption) ?_
      case refine_2 => (intro w hSw; (try dsimp only at hSw); go_simp; (try with_reducible rfl))
      (try simp only [Act.put, List.getElem_toArray, List.getElem_cons_succ, List.getElem_cons_zero, List.setIfInBounds_toArray, List.set_cons_zero, List.set_cons_succ])
      refine wpAnyH_take (i := 6) (v := ?_) rfl (by kernel_rfl) (by kernel_rfl) (by kernel_rfl) (fun _ _ _ h => h) (Or.inl ⟨by rfl, ?_⟩) (by assumption) ?_
      case refine_2 => (intro w hSw; (try dsimp only at hSw); go_simp; (try with_reducible rfl))
      (try simp only [Act.put, List.getElem_toArray, List.getElem_cons_succ, List.getElem_cons_zero, List.setIfInBounds_toArray, List.set_cons_zero, List.set_cons_succ])
      refine wpAnyH_take (i := 7) (v := ?_) rfl (by kernel_rfl) (by kernel_rfl) (by kernel_rfl) (fun _ _ _ h => h) (Or.inl ⟨by rfl, ?_⟩) (by assumption) ?_
      case refine_2 => (intro w hSw; (try dsimp only at hSw); go_simp; (try with_reducible rfl))
      (try simp only [Act.put, List.getElem_toArray, List.getElem_cons_succ, List.getElem_cons_zero, List.setIfInBounds_toArray, List.set_cons_zero, List.set_cons_succ])
      refine wpAnyH_take (i := 8) (v := ?_) rfl (by kernel_rfl) (by kernel_rfl) (by kernel_rfl) (fun _ _ _ h => h) (Or.inl ⟨by rfl, ?_⟩) (by assumption) ?_
      case refine_2 => (intro w hSw; (try dsimp only at hSw); go_simp; (try with_reducible rfl))
      (try simp only [Act.put, List.getElem_toArray, List.getElem_cons_succ, List.getElem_cons_zero, List.setIfInBounds_toArray, List.set_cons_zero, List.set_cons_succ])
      refine wpAnyH_ready (rs := [9]) (by kernel_rfl) (by simp) ?_
      refine AllReadyH.cons rfl (fun K hK => ?_) AllReadyH.nil
      go_simp
      refine hK.out _ _ ⟨d2, d3⟩ (fun hHeld => ?_)
      clear hK K
      refine wpAnyH_done (by kernel_rfl) ?_ _
      go_wp2_with fail
      go_roundw
      case rel => exact ⟨k + 1, by omega, by go_num, HN⟩
      case measure => simp [intOf]; omega
    · have hk2 : k = m := by omega
      subst hk2
      have bo := T.blk H.out.obj pgn
      have c5 := bo.cell (k := 1) (by omega)
      have f5 := bo.frozen 1
      have HF := hid (pd_forget H.out T hb)
      clear T hb HR bo
      generalize obj3 (.slice (some ⟨gs, 0, none⟩) s s) (.slice x k c) (.slice (some ⟨gn, 0, none⟩) n n) 1 = V at *
      go_wp2_with fail
      refine bodyPost_end (results_none rfl _ _ _) rfl ?_
      exact ⟨rfl, HF.out⟩

end Go.Proofs.Ytbbjklenpgkooaa

/-
  What Flush, Crash and Rot of a disk do: contracts over plain numbers ('DkPlain').
  Conditions: the disk is one that New gave ('PDk'), or it is known how many bytes there are.
-/
namespace Go.Proofs.Ytbbjklenpgkooaa
open Go.RowKit By Dk
set_option linter.unusedVariables false
set_option linter.unusedSimpArgs false
set_option maxRecDepth 100000

set_option maxHeartbeats 1000000 in
theorem flush_any (p n m : Nat) (F : Nat → Prop) (f A : Nat → Nat) (D : Nat → Nat → Nat) (w : World) (h : Pd w F p n m f A D) :
    Calls Try.prog 61 #[.pointer (some ⟨p, 0, none⟩)] w fun e w' => e = .returned (.tuple #[]) ∧ Turns F w w' ∧ Pd w' F p n 0 (kept f A D (fun _ => true) m) A D := by
  obtain ⟨gs, gn, R, s, q, h⟩ := h
  obtain ⟨x, c, hR, hle, hnil, hrow0⟩ := ownsRow_form h.own
  subst hR
  have k1 := h.c1
  have hm2 := h.m2
  have H := hid h
  clear h hrow0
  go_enter Try.func61, Try.ntmps61
  go_wp2_with fail
  go_loopw [11] (fun i wr => ∃ k : Nat, k ≤ m ∧ i = .int .i64 k ∧ Hid (Turns F w wr ∧ PDk wr F p gs gn (.slice x m c) n s m (kept f A D (fun _ => true) k) A D q)) (fun i _ => m - (intOf i).toNat)
  case atStart => exact ⟨0, by omega, rfl, Turns.refl _ _, H.out⟩
  case round =>
    obtain ⟨k, hk, rfl, HR⟩ := hrel
    clear k1 H
    obtain ⟨T, h⟩ := HR.out
    by_cases hlt : k < m
    · have hkm : (k : Int) < (m : Int) := by omega
      obtain ⟨x', c', hR, _, _, hrow⟩ := ownsRow_form h.own
      injection hR with e1 _ e3
      subst e1
      subst e3
      rcases hrow with h0 | ⟨g, rfl, hcells⟩
      · omega
      have c1 := hcells k _ (rowOf_get _ m k hlt)
      rw [Nat.zero_add] at c1
      have hkp := keep_any p gs gn n s m k F _ _ A D q wr h hlt
      have HN : ∀ v, Turns F wr v ∧ PDk v F p gs gn (.slice (some ⟨g, 0, none⟩) m c) n s m (put (kept f A D (fun _ => true) k) (A k) (D k)) A D q → Hid (Turns F w v ∧ PDk v F p gs gn (.slice (some ⟨g, 0, none⟩) m c) n s m (kept f A D (fun _ => true) (k + 1)) A D q) := fun v hv => ⟨T.trans hv.1, hv.2⟩
      clear T h HR hcells
      generalize q k = b at *
      go_wp2_with ((go_at_call 41; refine hkp.mono ?_; rintro e v ⟨rfl, hv⟩; have HV := HN v hv; clear hkp HN hv))
      go_roundw
      case rel => exact ⟨k + 1, by omega, by go_num, HV⟩
      case measure => simp [intOf]; omega
    · have hk2 : k = m := by omega
      subst hk2
      have hfg := forget_any p n k F _ A D wr ⟨_, _, _, _, _, h⟩
      have HT := hid T
      clear T h HR
      go_wp2_with ((go_at_call 42; refine hfg.mono ?_; rintro e v ⟨rfl, hv⟩; have HV := hid hv; clear hfg hv))
      go_end0
      exact ⟨rfl, HT.out.trans HV.out.1, HV.out.2⟩

def BoolsAt (w : World) (x : Option Addr) (p : Nat) (h : Nat → Bool) : Prop :=
  p = 0 ∨ ∃ b o, x = some ⟨b, o, none⟩ ∧ b < w.heap.size ∧ ∀ i, i < p → w.cell? ⟨b, o + i, none⟩ = some (.bool (h i))

theorem BoolsAt.turns {w w' : World} {x : Option Addr} {p : Nat} {h : Nat → Bool} {F : Nat → Prop} (q : BoolsAt w x p h) (t : Turns F w w') (hx : p ≠ 0 → ∀ a, x = some a → ¬ F a.block) : BoolsAt w' x p h := by
  by_cases h0 : p = 0
  · exact .inl h0
  rcases q with q | ⟨b, o, rfl, h2, h3⟩
  · exact .inl q
  · exact .inr ⟨b, o, rfl, Nat.lt_of_lt_of_le h2 t.size, fun r hr => (World.cell?_of_block (a := ⟨b, o + r, none⟩) (t.block b h2 (hx h0 _ rfl))).trans (h3 r hr)⟩

theorem BoolsAt.far {w : World} {x : Option Addr} {p : Nat} {h : Nat → Bool} {F : Nat → Prop} (q : BoolsAt w x p h) (hF : ∀ k, F k → w.heap.size ≤ k) : p ≠ 0 → ∀ a, x = some a → ¬ F a.block := by
  intro h0 a ha hf
  rcases q with q | ⟨b, o, rfl, h2, h3⟩
  · exact h0 q
  · cases ha
    have := hF _ hf
    have e : (⟨b, o, none⟩ : Addr).block = b := rfl
    omega

theorem BoolsAt.below {w w' : World} {x : Option Addr} {p : Nat} {h : Nat → Bool} (q : BoolsAt w x p h) (k : Below w.heap.size w w') : BoolsAt w' x p h := by
  rcases q with q | ⟨b, o, h1, h2, h3⟩
  · exact .inl q
  · exact .inr ⟨b, o, h1, Nat.lt_of_lt_of_le h2 k.size, fun r hr => (k.cell h2).trans (h3 r hr)⟩

def cutB (l : Nat) (h : Nat → Bool) : Nat → Bool := fun i => decide (i < l) && h i

set_option maxHeartbeats 2000000 in
theorem crash_any (p n m l lc : Nat) (F : Nat → Prop) (f A : Nat → Nat) (D : Nat → Nat → Nat) (y : Option Addr) (b : Nat → Bool) (w : World) (h : Pd w F p n m f A D) (hy : BoolsAt w y l b) (hyF : l ≠ 0 → ∀ a, y = some a → ¬ F a.block) (hl : l ≤ 140737488355328) :
    Calls Try.prog 23 #[.pointer (some ⟨p, 0, none⟩), .slice y l lc] w fun e w' => e = .returned (.tuple #[]) ∧ Turns F w w' ∧ Pd w' F p n 0 (kept f A D (cutB l b) m) A D := by
  obtain ⟨gs, gn, R, s, q, h⟩ := h
  obtain ⟨x, c, hR, hle, hnil, hrow0⟩ := ownsRow_form h.own
  subst hR
  have k1 := h.c1
  have hm2 := h.m2
  have H := hid h
  have HY := hid hy
  have HYF := hid hyF
  clear h hrow0 hy hyF
  go_enter Try.func23, Try.ntmps23
  go_wp2_with fail
  go_loopw [13] (fun i wr => ∃ k : Nat, k ≤ m ∧ i = .int .i64 k ∧ Hid (Turns F w wr ∧ PDk wr F p gs gn (.slice x m c) n s m (kept f A D (cutB l b) k) A D q)) (fun i _ => m - (intOf i).toNat)
  case atStart => exact ⟨0, by omega, rfl, Turns.refl _ _, H.out⟩
  case round =>
    obtain ⟨k, hk, rfl, HR⟩ := hrel
    clear k1 H
    obtain ⟨T, h⟩ := HR.out
    by_cases hlt : k < m
    · have hkm : (k : Int) < (m : Int) := by omega
      obtain ⟨x', c', hR, _, _, hrow⟩ := ownsRow_form h.own
      injection hR with e1 _ e3
      subst e1
      subst e3
      rcases hrow with h0 | ⟨g, rfl, hcells⟩
      · omega
      have c1 := hcells k _ (rowOf_get _ m k hlt)
      rw [Nat.zero_add] at c1
      have hkp := keep_any p gs gn n s m k F _ _ A D q wr h hlt
      have HN : cutB l b k = true → ∀ v, Turns F wr v ∧ PDk v F p gs gn (.slice (some ⟨g, 0, none⟩) m c) n s m (put (kept f A D (cutB l b) k) (A k) (D k)) A D q → Hid (Turns F w v ∧ PDk v F p gs gn (.slice (some ⟨g, 0, none⟩) m c) n s m (kept f A D (cutB l b) (k + 1)) A D q) := fun ht v hv => ⟨T.trans hv.1, by rw [kept, if_pos ht]; exact hv.2⟩
      have HO : cutB l b k = false → Hid (Turns F w wr ∧ PDk wr F p gs gn (.slice (some ⟨g, 0, none⟩) m c) n s m (kept f A D (cutB l b) (k + 1)) A D q) := fun ht => ⟨T, by rw [kept, if_neg (by rw [ht]; decide)]; exact h⟩
      have hyr := HY.out.turns T HYF.out
      clear T h HR hcells HY
      generalize q k = qb at *
      by_cases hkl : k < l
      · rcases hyr with h0 | ⟨yb, yo, rfl, _, hyc⟩
        · omega
        have c2 := hyc k hkl
        have hkl' : (k : Int) < (l : Int) := by omega
        cases hbk : b k with
        | true =>
          rw [hbk] at c2
          have HN2 := HN (by simp [cutB, hkl, hbk])
          clear HN HO hyc hbk
          go_wp2_with ((go_at_call 41; refine hkp.mono ?_; rintro e v ⟨rfl, hv⟩; have HV := HN2 v hv; clear hkp HN2 hv))
          go_roundw
          case rel => exact ⟨k + 1, by omega, by go_num, HV⟩
          case measure => simp [intOf]; omega
        | false =>
          rw [hbk] at c2
          have HO2 := HO (by simp [cutB, hbk])
          clear HN HO hyc hbk hkp
          go_wp2_with fail
          go_roundw
          case rel => exact ⟨k + 1, by omega, by go_num, HO2⟩
          case measure => simp [intOf]; omega
      · have HO2 := HO (by simp [cutB, hkl])
        have hkl' : (l : Int) ≤ (k : Int) := by omega
        clear HN HO hkp hyr
        go_wp2_with fail
        go_roundw
        case rel => exact ⟨k + 1, by omega, by go_num, HO2⟩
        case measure => simp [intOf]; omega
    · have hk2 : k = m := by omega
      subst hk2
      have hfg := forget_any p n k F _ A D wr ⟨_, _, _, _, _, h⟩
      have HT := hid T
      clear T h HR
      go_wp2_with ((go_at_call 42; refine hfg.mono ?_; rintro e v ⟨rfl, hv⟩; have HV := hid hv; clear hfg hv))
      go_end0
      exact ⟨rfl, HT.out.trans HV.out.1, HV.out.2⟩

def rotF (f : Nat → Nat) (a y : Nat) : Nat → Nat := fun k => if k = a then f k ^^^ y else f k

theorem xor_lt8 {a b : Nat} (ha : a < 256) (hb : b < 256) : a ^^^ b < 256 := Nat.xor_lt_two_pow (n := 8) ha hb

end Go.Proofs.Ytbbjklenpgkooaa

/-
  A disk in use: contracts that carry what lies below along; the statements' own check that what was flushed is safe.
  Conditions: none.
-/
namespace Go.Proofs.Ytbbjklenpgkooaa
open Go.RowKit By Dk
set_option linter.unusedVariables false
set_option linter.unusedSimpArgs false
set_option maxRecDepth 100000

structure Dsk (B : Nat) (w0 w : World) (F : Nat → Prop) (p n m : Nat) (f A : Nat → Nat) (D : Nat → Nat → Nat) : Prop where
  bel : Below B w0 w
  size : B ≤ w.heap.size
  foot : ∀ k, F k → B ≤ k
  pd : Pd w F p n m f A D

section
variable {B : Nat} {w0 w : World} {F : Nat → Prop} {p n m : Nat} {f A : Nat → Nat} {D : Nat → Nat → Nat}

theorem Dsk.below {w' : World} (h : Dsk B w0 w F p n m f A D) (t : Below w.heap.size w w') : Dsk B w0 w' F p n m f A D :=
  ⟨h.bel.trans (t.mono h.size), Nat.le_trans h.size t.size, h.foot, h.pd.below t⟩

theorem Dsk.turns {w' : World} {G : Nat → Prop} (h : Dsk B w0 w F p n m f A D) (t : Turns G w w') (hG : ∀ k, G k → B ≤ k) (hd : ∀ k, F k → ¬ G k) : Dsk B w0 w' F p n m f A D :=
  ⟨h.bel.trans (t.below hG h.size), Nat.le_trans h.size t.size, h.foot, h.pd.turns t hd⟩

theorem Dsk.drewN (h : Dsk B w0 w F p n m f A D) (k : Nat) : Dsk B w0 (w.drewN k) F p n m f A D := ⟨⟨h.bel.os, h.bel.tape, h.bel.output, h.bel.size, h.bel.block⟩, h.size, h.foot, h.pd.drewN k⟩
theorem Dsk.drew (h : Dsk B w0 w F p n m f A D) : Dsk B w0 w.drew F p n m f A D := h.drewN 1

theorem Pd.flt (h : Pd w F p n m f A D) : ∀ k, F k → k < w.heap.size := by
  obtain ⟨gs, gn, R, s, q, h⟩ := h
  exact h.flt

theorem Pd.lt (h : Pd w F p n m f A D) : ∀ i, f i < 256 := by
  obtain ⟨gs, gn, R, s, q, h⟩ := h
  exact h.lt

theorem Pd.ltD (h : Pd w F p n m f A D) : ∀ i j, D i j < 256 := by
  obtain ⟨gs, gn, R, s, q, h⟩ := h
  exact h.ltD

end

theorem dnew (n : Nat) (z : Int) (hz : z = (n : Int)) (w : World) (h1 : 1 ≤ n) (h2 : n ≤ 4096) :
    Calls Try.prog 22 #[.int .i64 z] w fun e w' => ∃ p F, e = .returned (.tuple #[.pointer (some ⟨p, 0, none⟩), .int .i64 0]) ∧ Dsk w.heap.size w w' F p n 0 (fun _ => 0) (fun _ => 0) (fun _ _ => 0) :=
  (new_yes n z hz _ _ (fun _ _ => by omega) w h1 h2).mono fun e w' ⟨p, he, hb, hd⟩ => ⟨p, _, he, hb, hb.size, fun k hk => hk.1, hd⟩

theorem dwrite (B p n m a c : Nat) (F : Nat → Prop) (f A g : Nat → Nat) (D : Nat → Nat → Nat) (x : Option Addr) (z : Int) (hz : z = (a : Int)) (w0 w : World) (h : Dsk B w0 w F p n m f A D) (ha : a < n) (hx : RowAt w x 64 g) (hg : ∀ i, g i < 256) (hm : m < 1000) :
    Calls Try.prog 59 #[.pointer (some ⟨p, 0, none⟩), .int .i64 z, .slice x 64 c] w fun e w' => e = .returned (.int .i64 0) ∧ Turns F w w' ∧ Dsk B w0 w' (grow F w w') p n (m + 1) f (ext A m a) (ext D m g) :=
  (write_yes p n m a c F f A g D x z hz w h.pd ha hx hg hm).mono fun e w' ⟨he, ht, hd⟩ => ⟨he, ht, h.bel.trans (ht.below h.foot h.size), Nat.le_trans h.size ht.size, fun k hk => by
    rcases hk with hk | hk
    · exact h.foot k hk
    · exact Nat.le_trans h.size hk.1, hd⟩

theorem dflush (B p n m : Nat) (F : Nat → Prop) (f A : Nat → Nat) (D : Nat → Nat → Nat) (w0 w : World) (h : Dsk B w0 w F p n m f A D) :
    Calls Try.prog 61 #[.pointer (some ⟨p, 0, none⟩)] w fun e w' => e = .returned (.tuple #[]) ∧ Turns F w w' ∧ Dsk B w0 w' F p n 0 (kept f A D (fun _ => true) m) A D :=
  (flush_any p n m F f A D w h.pd).mono fun e w' ⟨he, ht, hd⟩ => ⟨he, ht, h.bel.trans (ht.below h.foot h.size), Nat.le_trans h.size ht.size, h.foot, hd⟩

theorem dcrash (B p n m l lc : Nat) (F : Nat → Prop) (f A : Nat → Nat) (D : Nat → Nat → Nat) (y : Option Addr) (b : Nat → Bool) (w0 w : World) (h : Dsk B w0 w F p n m f A D) (hy : BoolsAt w y l b) (hyF : l ≠ 0 → ∀ a, y = some a → ¬ F a.block) (hl : l ≤ 140737488355328) :
    Calls Try.prog 23 #[.pointer (some ⟨p, 0, none⟩), .slice y l lc] w fun e w' => e = .returned (.tuple #[]) ∧ Turns F w w' ∧ Dsk B w0 w' F p n 0 (kept f A D (cutB l b) m) A D :=
  (crash_any p n m l lc F f A D y b w h.pd hy hyF hl).mono fun e w' ⟨he, ht, hd⟩ => ⟨he, ht, h.bel.trans (ht.below h.foot h.size), Nat.le_trans h.size ht.size, h.foot, hd⟩

theorem dread (B p n m a : Nat) (F : Nat → Prop) (f A : Nat → Nat) (D : Nat → Nat → Nat) (z : Int) (hz : z = (a : Int)) (w0 w : World) (h : Dsk B w0 w F p n m f A D) (ha : a < n) :
    Calls Try.prog 68 #[.pointer (some ⟨p, 0, none⟩), .int .i64 z] w fun e w' => e = .returned (.tuple #[.slice (some ⟨w.heap.size, 0, none⟩) 64 64, .int .i64 0]) ∧ Below w.heap.size w w' ∧ Dsk B w0 w' F p n m f A D ∧ Blk w' w.heap.size 5 64 (fun i => .int .u8 (now f A D a m i : Int)) :=
  (read_yes p n m a F f A D z hz w h.pd ha).mono fun e w' ⟨he, hb, hk⟩ => ⟨he, hb, h.below hb, hk⟩

def g7 : Nat → Nat := fun i => if i = 3 then 7 else 0

theorem g7_lt (i : Nat) : g7 i < 256 := by unfold g7; split <;> omega

end Go.Proofs.Ytbbjklenpgkooaa

/-
  A statement that Go may carry out in more than one order, whose last step, a store, waits for all others: what is read ahead of it may be read first, though the store writes there.
  Conditions: none.
-/
namespace Go.Proofs.Ytbbjklenpgkooaa
open Go
set_option linter.unusedVariables false

section
variable {P : Program} {ops : Array Oper} {Q : Exit → Act → World → Prop} {md : Region.Mode} {S : World → Prop} {l : Nat}

def wpAnyL (P : Program) (md : Region.Mode) (ops : Array Oper) (Q : Exit → Act → World → Prop) (S : World → Prop) (l : Nat) : Nat → Array Bool → Act → World → Prop
  | 0, listed, a, w => Region.ready md ops listed = [] ∧ Q .normal a w
  | fuel + 1, listed, a, w =>
    (Region.ready md ops listed = [] → Q .normal a w) ∧
    ∀ i ∈ Region.ready md ops listed, wpOp P ops Q i (fun a' w' => (i ≠ l → S w') ∧ wpAnyL P md ops Q S l fuel (listed.setIfInBounds i true) a' w') a w

theorem wpAny_of_last : ∀ (fuel : Nat) (listed : Array Bool) (a : Act) (w : World), wpAnyL P md ops Q S l fuel listed a w → wpAny P md ops Q fuel listed a w
  | 0, _, _, _, h => h
  | fuel + 1, _, _, _, h => ⟨h.1, fun i hi => wpOp_mono (fun a' w' h' => wpAny_of_last fuel _ a' w' h'.2) (h.2 i hi)⟩

def waits (md : Region.Mode) (ops : Array Oper) (l i : Nat) : Bool :=
  match ops[l]? with
  | some o => o.after.toList.any fun e => Region.binds md e && e.on == i
  | none => false

theorem waits_spec {i : Nat} (h : waits md ops l i = true) {o : Oper} (ho : ops[l]? = some o) : ∃ e ∈ o.after, Region.binds md e = true ∧ e.on = i := by
  unfold waits at h
  rw [ho] at h
  obtain ⟨e, he, hb⟩ := List.any_eq_true.1 h
  simp only [Bool.and_eq_true, beq_iff_eq] at hb
  exact ⟨e, by simpa using he, hb.1, hb.2⟩

theorem wpAnyL_first {i : Nat} {oi : Oper} {v : Value} (hi : ops[i]? = some oi) (hsel : ∀ (j : Nat) (o : Oper) cs b, ops[j]? = some o → o.op ≠ .select cs b)
    (hQ : ∀ c a w, Q (.panic c) (a.put oi.dst v) w → Q (.panic c) a w) (hwait : waits md ops l i = true) :
    ∀ (fuel : Nat) (listed : Array Bool) (a : Act) (w : World),
      (∀ j oj, ops[j]? = some oj → j ≠ i → listed.getD j true = false → (∀ e ∈ oj.after, Region.binds md e = true → e.on ≠ i) → oi.apart ops oj = true) →
      i ∈ Region.ready md ops listed → YieldsIf P ops S oi v a → S w →
      wpAnyL P md ops Q S l fuel (listed.setIfInBounds i true) (a.put oi.dst v) w → wpAnyL P md ops Q S l (fuel + 1) listed a w := by
  intro fuel
  induction fuel with
  | zero =>
    intro listed a w _ hr hy hS H
    refine ⟨fun h => (by rw [h] at hr; cases hr), fun j hj => ?_⟩
    by_cases hji : j = i
    · subst hji; exact hy.wpOp hi hS ⟨fun _ => hS, H⟩
    · have := ready_mono hj hji
      rw [H.1] at this
      cases this
  | succ fuel ih =>
    intro listed a w hfree hr hy hS H
    refine ⟨fun h => (by rw [h] at hr; cases hr), fun j hj => ?_⟩
    by_cases hji : j = i
    · subst hji; exact hy.wpOp hi hS ⟨fun _ => hS, H⟩
    · have h1 := H.2 j (ready_mono hj hji)
      obtain ⟨hjun, oj, hoj, hall⟩ := mem_ready.1 hj
      have hnot : ∀ e ∈ oj.after, Region.binds md e = true → e.on ≠ i := fun e he hb heq => by
        have h1 := hall e he hb
        have h0 := (mem_ready.1 hr).1
        rw [heq] at h1
        rcases Nat.lt_or_ge i listed.size with h' | h'
        · simp [h'] at h0 h1; rw [h0] at h1; cases h1
        · simp [Array.getElem?_eq_none h'] at h1
      have hjl : j ≠ l := fun e => by
        subst e
        obtain ⟨x, hx, hb, hon⟩ := waits_spec hwait hoj
        exact hnot x hx hb hon
      have h2 := wpOp_putIf hoj (hfree j oj hoj hji hjun hnot) (fun cs b => hsel i oi cs b hi) (fun cs b => hsel j oj cs b hoj) hQ hy h1
      have hfree' : ∀ k ok, ops[k]? = some ok → k ≠ i → (listed.setIfInBounds j true).getD k true = false →
          (∀ e ∈ ok.after, Region.binds md e = true → e.on ≠ i) → oi.apart ops ok = true := fun k ok hk hki hun hno => by
        refine hfree k ok hk hki ?_ hno
        by_cases hjk : j = k
        · subst hjk; exact hjun
        · rw [getD_set_ne true hjk] at hun; exact hun
      refine wpOp_mono (fun a' w' h3 => ⟨fun _ => h3.2.1 hjl, ih (listed.setIfInBounds j true) a' w' hfree' (ready_mono hr (Ne.symm hji)) h3.1 (h3.2.1 hjl) ?_⟩) h2
      rw [Array.setIfInBounds_comm _ _ hji]
      exact h3.2.2

theorem wpAnyL_take {i : Nat} {oi : Oper} {v : Value} {fuel : Nat} {listed : Array Bool} {a : Act} {w : World} (hi : ops[i]? = some oi)
    (hs : Region.noSelect ops = true) (hf : Region.free md ops listed i = true) (hr : (Region.ready md ops listed).contains i = true) (hwait : waits md ops l i = true)
    (hQ : ∀ c a w, Q (.panic c) (a.put oi.dst v) w → Q (.panic c) a w) (hS : S w) (hy : YieldsIf P ops S oi v a)
    (h : wpAnyL P md ops Q S l fuel (listed.setIfInBounds i true) (a.put oi.dst v) w) : wpAnyL P md ops Q S l (fuel + 1) listed a w :=
  wpAnyL_first hi (Region.noSelect_spec hs) hQ hwait fuel listed a w (Region.free_spec hi hf) (by simpa using hr) hy hS h

/- One alone may come up. -/
theorem wpAnyL_one {i : Nat} {o : Oper} {fuel : Nat} {listed : Array Bool} {a : Act} {w : World} (hr : Region.ready md ops listed = [i]) (ho : ops[i]? = some o)
    (h : ∀ K' : Act → World → Prop, Shut (∀ a w, (i ≠ l → S w) → wpAnyL P md ops Q S l fuel (listed.setIfInBounds i true) a w → K' a w) → if Region.wanted o (yielded ops a.tmps) = true then Oper.wp P o a w K' Q else K' (a.put o.dst undef) w) :
    wpAnyL P md ops Q S l (fuel + 1) listed a w :=
  ⟨fun h0 => (by rw [hr] at h0; cases h0), fun j hj => by
    rw [hr] at hj
    have e : j = i := by simpa using hj
    subst e
    exact wpOp_step ho (fun K' hK => h K' (fun a w hS hW => hK a w ⟨hS, hW⟩))⟩

theorem wpAnyL_done {listed : Array Bool} {a : Act} {w : World} (hr : Region.ready md ops listed = []) (h : Q .normal a w) : ∀ fuel, wpAnyL P md ops Q S l fuel listed a w
  | 0 => ⟨hr, h⟩
  | _ + 1 => ⟨fun _ => h, by rw [hr]; simp⟩

theorem wp_region_last {id : Nat} {a : Act} {w : World} (S : World → Prop) (l : Nat) (hm : P.follows .mixedOrders = true) (hS : S w.drew)
    (h : S w.drew → wpAnyL P .any ops Q S l ops.size (Array.replicate ops.size false) a w.drew) : (Code.region id ops true).wp P Q a w :=
  wp_region_any hm (wpAny_of_last _ _ _ _ (h hS))

end

end Go.Proofs.Ytbbjklenpgkooaa

/-
  What the inner allZero and canBe of package journal do: contracts over plain numbers ('JoPlain').
  Conditions: bytes that are looked at lie in memory.
-/
namespace Go.Proofs.Ytbbjklenpgkooaa
open Go.RowKit By Dk Su Jo
set_option linter.unusedVariables false
set_option linter.unusedSimpArgs false
set_option maxRecDepth 100000

theorem allzero_any (x : Option Addr) (n c : Nat) (f : Nat → Nat) (t : Bool) (w : World) (h : RowAt w x n f) (hn : n ≤ 281474976710656) (hy : (∀ i, i < n → f i = 0) → t = true) (hx : ¬ (∀ i, i < n → f i = 0) → t = false) :
    Calls Try.prog 81 #[.slice x n c] w fun e w' => e = .returned (.bool t) ∧ w' = w := by
  have HY := hid hy
  have HX := hid hx
  clear hy hx
  rcases h with h0 | ⟨b, o, rfl, _, hc⟩
  · subst h0
    have ht := HY.out fun i hi => by omega
    go_enter Try.func81, Try.ntmps81
    go_wp2_with fail
    refine wp_loop_rounds 1 ?_
    rw [rounds_succ]
    go_wp2_with fail
    go_ret
    exact ⟨by rw [ht]; rfl, rfl⟩
  · go_enter Try.func81, Try.ntmps81
    go_wp2_with fail
    go_loop [7] (fun i => ∃ k : Nat, k ≤ n ∧ i = .int .i64 k ∧ Hid (∀ i, i < k → f i = 0)) (fun i => n - (intOf i).toNat)
    case atStart => exact ⟨0, by omega, rfl, fun i hi => by omega⟩
    case round =>
      obtain ⟨k, hk, rfl, HK⟩ := hrel
      by_cases hlt : k < n
      · have c1 := hc k hlt
        have hlt' : (k : Int) < (n : Int) := by omega
        by_cases e : f k = 0
        · have HN : Hid (∀ i, i < k + 1 → f i = 0) := fun i hi => by
            rcases Nat.lt_or_ge i k with h | h
            · exact HK.out i h
            · obtain rfl : i = k := by omega
              exact e
          rw [e] at c1
          clear hc e
          go_wp2_with fail
          go_round
          case rel => exact ⟨k + 1, by omega, by go_num, HN⟩
          case measure => simp [intOf]; omega
        · have ht := HX.out fun h => e (h k hlt)
          have e' : ((f k : Int) != 0) = true := by simpa using e
          clear hc
          generalize f k = v at *
          go_wp2_with fail
          go_ret
          first | exact ⟨rfl, rfl⟩ | exact ⟨by rw [ht]; rfl, rfl⟩
      · obtain rfl : k = n := by omega
        have ht := HY.out HK.out
        clear hc
        go_wp2_with fail
        go_ret
        first | exact ⟨rfl, rfl⟩ | exact ⟨by rw [ht]; rfl, rfl⟩

theorem canbe_any (p n : Nat) (l t : Bool) (w : World) (hp : p < 1000) (hn : n < 1000) (ht : canB p n l ↔ t = true) :
    Calls Try.prog 80 #[.int .i64 p, .int .i64 n, .bool l] w fun e w' => e = .returned (.bool t) ∧ w' = w := by
  cases l with
  | false =>
    have ht : (n = 51 ∧ p + 1 < 255) ↔ t = true := by rw [← ht]; simp [canB]
    by_cases h1 : n = 51
    · subst h1
      by_cases h2 : p + 1 < 255
      · have e := ht.1 ⟨rfl, h2⟩
        subst e
        have h2' : (p : Int) + 1 < 255 := by omega
        clear ht
        go_enter Try.func80, Try.ntmps80
        go_wp2_with fail
        go_ret
        exact ⟨by simp [h2'], rfl⟩
      · have e : t = false := by cases t; rfl; exact absurd (ht.2 rfl).2 h2
        subst e
        have h2' : ¬ (p : Int) + 1 < 255 := by omega
        clear ht
        go_enter Try.func80, Try.ntmps80
        go_wp2_with fail
        go_ret
        exact ⟨by simp [h2'], rfl⟩
    · have e : t = false := by cases t; rfl; exact absurd (ht.2 rfl).1 h1
      subst e
      have h1' : ((n : Int) == 51) = false := by
        rw [beq_eq_false_iff_ne]
        omega
      clear ht
      go_enter Try.func80, Try.ntmps80
      go_wp2_with fail
      go_ret
      exact ⟨rfl, rfl⟩
  | true =>
    have ht : (n ≤ 51 ∧ p < 255 ∧ (0 < n ∨ p = 0)) ↔ t = true := by rw [← ht]; simp [canB]
    by_cases h1 : n ≤ 51
    · have h1' : (n : Int) ≤ 51 := by omega
      by_cases h2 : p < 255
      · have h2' : (p : Int) < 255 := by omega
        by_cases h3 : 0 < n
        · have e := ht.1 ⟨h1, h2, .inl h3⟩
          subst e
          have h3' : (0 : Int) < n := by omega
          clear ht
          go_enter Try.func80, Try.ntmps80
          go_wp2_with fail
          go_ret
          exact ⟨rfl, rfl⟩
        · have h3' : ¬ (0 : Int) < n := by omega
          have et : t = decide (p = 0) := by
            by_cases e : p = 0
            · rw [ht.1 ⟨h1, h2, .inr e⟩]; simp [e]
            · have : t = false := by cases t; rfl; exact absurd (ht.2 rfl).2.2 (by omega)
              rw [this]; simp [e]
          subst et
          clear ht
          go_enter Try.func80, Try.ntmps80
          go_wp2_with fail
          go_ret
          refine ⟨?_, rfl⟩
          by_cases e : p = 0
          · subst e; rfl
          · simp [e]
      · have e : t = false := by cases t; rfl; exact absurd (ht.2 rfl).2.1 h2
        subst e
        have h2' : ¬ (p : Int) < 255 := by omega
        clear ht
        go_enter Try.func80, Try.ntmps80
        go_wp2_with fail
        go_ret
        exact ⟨rfl, rfl⟩
    · have e : t = false := by cases t; rfl; exact absurd (ht.2 rfl).1 h1
      subst e
      have h1' : ¬ (n : Int) ≤ 51 := by omega
      clear ht
      go_enter Try.func80, Try.ntmps80
      go_wp2_with fail
      go_ret
      exact ⟨rfl, rfl⟩

end Go.Proofs.Ytbbjklenpgkooaa

/-
  Five cells side by side; what the inner partOf of package journal does where the sum is another one.
  Conditions: the sector lies in memory.
-/
namespace Go.Proofs.Ytbbjklenpgkooaa
open Go.RowKit By Dk Su Jo
set_option linter.unusedVariables false
set_option linter.unusedSimpArgs false
set_option maxRecDepth 100000

def noPart : Value := .agg #[.int .i64 0, .int .u32 0, .int .i64 0, .bool false, .slice none 0 0]

/- Five cells, side by side, of a block. -/
structure Five (w : World) (p : Nat) (a b c d e : Value) : Prop where
  c0 : w.cell? ⟨p, 0, none⟩ = some a
  c1 : w.cell? ⟨p, 1, none⟩ = some b
  c2 : w.cell? ⟨p, 2, none⟩ = some c
  c3 : w.cell? ⟨p, 3, none⟩ = some d
  c4 : w.cell? ⟨p, 4, none⟩ = some e
  f0 : w.frozen? ⟨p, 0, none⟩ = false
  f1 : w.frozen? ⟨p, 1, none⟩ = false
  f2 : w.frozen? ⟨p, 2, none⟩ = false
  f3 : w.frozen? ⟨p, 3, none⟩ = false
  f4 : w.frozen? ⟨p, 4, none⟩ = false

theorem Five.new (w : World) (a b c d e : Value) (t : TypeId) : Five (w.alloc (.cells #[a, b, c, d, e] t)) w.heap.size a b c d e := by
  constructor <;> simp only [World.cell?, World.frozen?, heap_alloc_new] <;> rfl

theorem Five.below {w w' : World} {p B : Nat} {a b c d e : Value} (h : Five w p a b c d e) (hb : Below B w w') (hp : p < B) : Five w' p a b c d e :=
  ⟨(hb.cell (by exact hp)).trans h.c0, (hb.cell (by exact hp)).trans h.c1, (hb.cell (by exact hp)).trans h.c2, (hb.cell (by exact hp)).trans h.c3, (hb.cell (by exact hp)).trans h.c4,
    (hb.frozen (by exact hp)).trans h.f0, (hb.frozen (by exact hp)).trans h.f1, (hb.frozen (by exact hp)).trans h.f2, (hb.frozen (by exact hp)).trans h.f3, (hb.frozen (by exact hp)).trans h.f4⟩

theorem below_part {w w1 : World} (h : Below (w.heap.size + 1) (w.alloc (.cells #[.int .i64 0, .int .u32 0, .int .i64 0, .bool false, .slice none 0 0] 103)) w1) : Below w.heap.size w w1 :=
  ((Below.refl _ _).alloc (Nat.le_refl _) _).trans (h.mono (Nat.le_succ _))

theorem below_five {B p : Nat} {w w1 : World} (h : Below B w w1) (hp : B ≤ p) (v0 v1 v2 v3 v4 : Value) : Below B w (((((w1.setCell ⟨p, 0, none⟩ v0).setCell ⟨p, 1, none⟩ v1).setCell ⟨p, 2, none⟩ v2).setCell ⟨p, 3, none⟩ v3).setCell ⟨p, 4, none⟩ v4) :=
  ((((h.setCell (p := ⟨p, 0, none⟩) hp _).setCell (p := ⟨p, 1, none⟩) hp _).setCell (p := ⟨p, 2, none⟩) hp _).setCell (p := ⟨p, 3, none⟩) hp _).setCell (p := ⟨p, 4, none⟩) hp _

def zPart (w : World) : World := w.alloc (.cells #[.int .i64 0, .int .u32 0, .int .i64 0, .bool false, .slice none 0 0] 103)

theorem zPart_size (w : World) : (zPart w).heap.size = w.heap.size + 1 := by simp [zPart]

theorem partof_sum (b o c : Nat) (s : Nat → Nat) (w : World) (hs : ∀ i, s i < 256) (hc : 64 ≤ c) (h : RowAt w (some ⟨b, o, none⟩) 64 s) (hno : ¬ Ends s 60) :
    Calls Try.prog 69 #[.slice (some ⟨b, o, none⟩) 64 c] w fun e w' => e = .returned (.tuple #[noPart, .bool false]) ∧ Below w.heap.size w w' := by
  have hst : Calls Try.prog 79 #[.slice (some ⟨b, o, none⟩) 64 c] (zPart w) fun e w' => e = .returned (.tuple #[.slice none 0 0, .bool false]) ∧ Hid (Below w.heap.size w w') ∧ Five w' w.heap.size (.int .i64 0) (.int .u32 0) (.int .i64 0) (.bool false) (.slice none 0 0) :=
    (strip_no 64 c b o 60 s (zPart w) hs (by omega) hc rfl (h.below ((Below.refl _ _).alloc (Nat.le_refl _) _)) hno).mono fun e v ⟨h1, h2⟩ => by
      rw [zPart_size] at h2
      exact ⟨h1, below_part h2, (Five.new w _ _ _ _ _ _).below h2 (Nat.lt_succ_self _)⟩
  clear h hno
  unfold zPart at hst
  go_enter Try.func69, Try.ntmps69
  go_wp2_with ((go_at_call 79; refine hst.mono ?_; rintro e w1 ⟨rfl, HB, c0, c1, c2, c3, c4, f0, f1, f2, f3, f4⟩; clear hst))
  refine bodyPost_ret (v := .tuple #[noPart, .bool false]) ?_ rfl ?_
  · rw [results_cell_tmp rfl]; go_simp; rfl
  · exact ⟨rfl, below_five HB.out (Nat.le_refl _) _ _ _ _ _⟩

/- partOf, from the sum on: what lies there is b's bytes (y), the answer's place (P), the part that is made (Q). -/
structure PSt (w wr : World) (y P Q : Nat) (s : Nat → Nat) (g r : Nat) : Prop where
  bel : Below w.heap.size w wr
  row : ∀ i, i < 60 → wr.cell? ⟨y, i, none⟩ = some (.int .u8 (s i : Int))
  res : Five wr P (.int .i64 0) (.int .u32 0) (.int .i64 0) (.bool false) (.slice none 0 0)
  par : Five wr Q (.int .i64 (g : Int)) (.int .u32 (r : Int)) (.int .i64 (s 7 : Int)) (.bool (lst s)) (.slice none 0 0)
  pq : P ≠ Q
  yq : y ≠ Q
  ip : w.heap.size ≤ P
  iq : w.heap.size ≤ Q
  yl : y < wr.heap.size

theorem cell_off {w : World} {a b : Addr} {v : Value} (h : a ≠ b) : (w.setCell a v).cell? b = w.cell? b := World.cell?_setCell_other _ _ _ _ h

theorem Five.other {w : World} {p q k : Nat} {a b c d e v : Value} (h : Five w p a b c d e) (hq : p ≠ q) : Five (w.setCell ⟨q, k, none⟩ v) p a b c d e := by
  have e1 : ∀ j, (w.setCell ⟨q, k, none⟩ v).cell? ⟨p, j, none⟩ = w.cell? ⟨p, j, none⟩ := fun j => cell_off (fun e => by injection e with e _; exact hq e.symm)
  have e2 : ∀ j, (w.setCell ⟨q, k, none⟩ v).frozen? ⟨p, j, none⟩ = w.frozen? ⟨p, j, none⟩ := fun j => by simp
  exact ⟨(e1 0).trans h.c0, (e1 1).trans h.c1, (e1 2).trans h.c2, (e1 3).trans h.c3, (e1 4).trans h.c4, (e2 0).trans h.f0, (e2 1).trans h.f1, (e2 2).trans h.f2, (e2 3).trans h.f3, (e2 4).trans h.f4⟩

theorem cell_same {w : World} {a : Addr} {v u : Value} (h : w.cell? a = some u) : (w.setCell a v).cell? a = some v := by simpa using World.cell?_setCell_same _ _ _ h

theorem off_ne {p j k : Nat} (h : j ≠ k) : (⟨p, j, none⟩ : Addr) ≠ ⟨p, k, none⟩ := fun e => by injection e with _ e _; exact h e

theorem Five.set0 {w : World} {p : Nat} {a b c d e v : Value} (h : Five w p a b c d e) : Five (w.setCell ⟨p, 0, none⟩ v) p v b c d e :=
  ⟨cell_same h.c0, (cell_off (off_ne (by decide))).trans h.c1, (cell_off (off_ne (by decide))).trans h.c2, (cell_off (off_ne (by decide))).trans h.c3, (cell_off (off_ne (by decide))).trans h.c4, by simpa using h.f0, by simpa using h.f1, by simpa using h.f2, by simpa using h.f3, by simpa using h.f4⟩

theorem Five.set1 {w : World} {p : Nat} {a b c d e v : Value} (h : Five w p a b c d e) : Five (w.setCell ⟨p, 1, none⟩ v) p a v c d e :=
  ⟨(cell_off (off_ne (by decide))).trans h.c0, cell_same h.c1, (cell_off (off_ne (by decide))).trans h.c2, (cell_off (off_ne (by decide))).trans h.c3, (cell_off (off_ne (by decide))).trans h.c4, by simpa using h.f0, by simpa using h.f1, by simpa using h.f2, by simpa using h.f3, by simpa using h.f4⟩

theorem Five.drew {w : World} {p : Nat} {a b c d e : Value} (h : Five w p a b c d e) : Five w.drew p a b c d e := ⟨h.c0, h.c1, h.c2, h.c3, h.c4, h.f0, h.f1, h.f2, h.f3, h.f4⟩

section
variable {w wr : World} {y P Q : Nat} {s : Nat → Nat} {g r : Nat}

theorem PSt.drew (h : PSt w wr y P Q s g r) : PSt w wr.drew y P Q s g r := ⟨h.bel.drew, h.row, h.res.drew, h.par.drew, h.pq, h.yq, h.ip, h.iq, h.yl⟩

theorem PSt.setG (h : PSt w wr y P Q s g r) (g' : Nat) : PSt w (wr.setCell ⟨Q, 0, none⟩ (.int .i64 (g' : Int))) y P Q s g' r :=
  ⟨h.bel.setCell (p := ⟨Q, 0, none⟩) h.iq _, fun i hi => (cell_off (fun e => by injection e with e _; exact h.yq e.symm)).trans (h.row i hi), h.res.other h.pq, h.par.set0, h.pq, h.yq, h.ip, h.iq, by simpa [World.setCell] using h.yl⟩

theorem PSt.setR (h : PSt w wr y P Q s g r) (r' : Nat) : PSt w (wr.setCell ⟨Q, 1, none⟩ (.int .u32 (r' : Int))) y P Q s g r' :=
  ⟨h.bel.setCell (p := ⟨Q, 1, none⟩) h.iq _, fun i hi => (cell_off (fun e => by injection e with e _; exact h.yq e.symm)).trans (h.row i hi), h.res.other h.pq, h.par.set1, h.pq, h.yq, h.ip, h.iq, by simpa [World.setCell] using h.yl⟩

end

theorem pst_start {w w1 : World} {y : Nat} {s : Nat → Nat} (h1 : Below w.heap.size w w1) (h2 : ∀ i, i < 60 → w1.cell? ⟨y, i, none⟩ = some (.int .u8 (s i : Int))) (h3 : y < w1.heap.size) (h4 : w.heap.size < w1.heap.size) (h5 : Five w1 w.heap.size (.int .i64 0) (.int .u32 0) (.int .i64 0) (.bool false) (.slice none 0 0)) :
    PSt w (w1.alloc (.cells #[.int .i64 0, .int .u32 0, .int .i64 (s 7 : Int), .bool (lst s), .slice none 0 0] 103)).drew y w.heap.size w1.heap.size s 0 0 := by
  have hb : ∀ ob, Below w1.heap.size w1 (w1.alloc ob).drew := fun ob => ((Below.refl w1.heap.size w1).alloc (Nat.le_refl _) ob).drew
  exact ⟨h1.trans ((hb _).mono h1.size), fun i hi => ((hb _).cell (p := ⟨y, i, none⟩) h3).trans (h2 i hi), h5.below (hb _) h4, (Five.new w1 _ _ _ _ _ _).drew, by omega, by omega, Nat.le_refl _, by omega, by have := (hb (.cells #[.int .i64 0, .int .u32 0, .int .i64 (s 7 : Int), .bool (lst s), .slice none 0 0] 103)).size; omega⟩

def gk (s : Nat → Nat) (k : Nat) : Nat := if k = 0 then 0 else if k = 1 then s 1 else genS s
def rk (s : Nat → Nat) (k : Nat) : Nat := if k = 0 then 0 else if k = 1 then s 3 else if k = 2 then s 3 + 256 * s 4 else if k = 3 then s 3 + 256 * s 4 + 65536 * s 5 else num s

end Go.Proofs.Ytbbjklenpgkooaa
