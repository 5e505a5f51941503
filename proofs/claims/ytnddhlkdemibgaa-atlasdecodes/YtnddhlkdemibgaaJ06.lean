/-
  5 texts of this proof, one behind the other: AtAdd, AtKinds, AtSmall, AtChange, AtCheck.
-/
import Derived.Test.YtnddhlkdemibgaaJ05
import Derived.Test.YtnddhlkdemibgaaJ04
import Derived.Laws.EntriesVeiled
/-
  Package atlas: add.
  Conditions: the map is one's own.
-/
namespace Go.Proofs.Ytnddhlkdemibgaa.At
open Go.RowKit By Fl
set_option linter.unusedVariables false
set_option linter.unusedSimpArgs false
set_option maxRecDepth 100000

def inAt (o : Osd) (L : List Osd) : Nat := match L.findIdx? (overId o.id) with | some k => k | none => L.length

theorem ins_at (o : Osd) (L : List Osd) : ins o L = L.take (inAt o L) ++ o :: L.drop (inAt o L) := by
  unfold ins inAt
  cases h : L.findIdx? (overId o.id) with
  | none => simp
  | some k => rfl

theorem inAt_le (o : Osd) (L : List Osd) : inAt o L ≤ L.length := by
  unfold inAt
  cases h : L.findIdx? (overId o.id) with
  | none => exact Nat.le_refl _
  | some k =>
    obtain ⟨a, ha, _⟩ := idx_some h
    exact Nat.le_of_lt (List.getElem?_eq_some_iff.1 ha).1

theorem idx_inAt (o : Osd) (L : List Osd) : idx (overId o.id) L = (inAt o L : Int) ∨ (idx (overId o.id) L = -1 ∧ inAt o L = L.length) := by
  unfold idx inAt
  cases h : L.findIdx? (overId o.id) with
  | none => exact .inr ⟨rfl, rfl⟩
  | some k => exact .inl rfl

theorem added {w w4 w5 : World} {B p n c c' at_ : Nat} {x x' : Option Addr} {m : Mp} {o : Osd} {L : List Osd} (h : MapAt w B p m (.slice x n c)) (b4 : Below w.heap.size w w4) (H5 : Inserted w4 w5 B (.slice x n c) (.slice x' (n + 1) c') (m.osds.take at_ ++ o :: m.osds.drop at_))
    (hp5 : w5.heap[p]? = some (.cells #[.int .i64 m.ep, .int .i64 m.pool.k, .int .i64 m.pool.m, .int .i64 m.pool.pgs, .int .i64 m.pool.dom, .slice x n c] 26 (0, 0))) (hn : n < 64) (hL : L = m.osds.take at_ ++ o :: m.osds.drop at_) (hl : n = m.osds.length) :
    Turned w (w5.setCell ⟨p, 5, none⟩ (.slice x' (n + 1) c')) B p m (.slice x n c) L := by
  obtain ⟨h1, h2, h3⟩ := H5
  subst hL
  have hpl := h.lt
  have hne : ∀ g, (Value.slice x' (n + 1) c').ownBlock = some g → g ≠ p := fun g hg e => by
    rcases h3 g hg with q | q
    · exact h.apart q e
    · have := b4.size; omega
  refine ⟨.slice x' (n + 1) c', ⟨heap_set hp5 _, h1.turns (turns_put (Turns.refl _ _) _ _) hne, ?_⟩, ?_, fun g hg => (h3 g hg).imp (fun h => h) (fun h => by have := b4.size; omega)⟩
  · show (m.osds.take at_ ++ o :: m.osds.drop at_).length ≤ 64
    have := List.length_take_le at_ m.osds
    simp
    omega
  · exact (((Turns.of_below b4).trans h2).weak (fun k hk => .inr hk)).setCell (p := ⟨p, 5, none⟩) (.inl (.inl rfl)) _

set_option maxHeartbeats 3200000 in
theorem add_any {w : World} {B p : Nat} {m : Mp} {R : Value} (o : Osd) (h : MapAt w B p m R) (hB : B ≤ w.heap.size) :
    Calls Try.prog 58 #[.pointer (some ⟨p, 0, none⟩), vO o] w fun e w' => e = .returned (.int .i64 (addP m.osds o).1) ∧ Hid (Turned w w' B p m R (addP m.osds o).2) := by
  have HM := hid h
  obtain ⟨x, c, rfl, hnc, hnil, hx⟩ := h.own.form
  have p5 : w.cell? ⟨p, 5, none⟩ = some (.slice x m.osds.length c) := cell_heap h.blk (j := 5) rfl
  obtain ⟨n, hn⟩ : ∃ n, n = m.osds.length := ⟨_, rfl⟩
  rw [← hn] at p5 hnc hnil HM ⊢
  have HN := hid hn
  have hn64 : n ≤ 64 := by rw [hn]; exact h.small
  have hpl := h.lt
  have HS : Hid (Os w x n c m.osds) := own_os HM.out.own (by have := h.small; omega)
  have b0 := al w (.cells #[.int .i64 o.id, .bool o.up, .bool o.inn, .int .i64 o.wt, .int .i64 o.life, .int .i64 o.boot, .int .i64 o.host, .int .i64 o.rack] 28)
  have HO := hid (rfl : o = o)
  obtain ⟨w0, hw0⟩ : ∃ w0, w0 = w.alloc (.cells #[.int .i64 o.id, .bool o.up, .bool o.inn, .int .i64 o.wt, .int .i64 o.life, .int .i64 o.boot, .int .i64 o.host, .int .i64 o.rack] 28) := ⟨_, rfl⟩
  have ob : OBox w0 w.heap.size o := by rw [hw0]; exact heap_alloc_new _ _
  rw [← hw0] at b0
  have HW := hid hw0
  have HBx := hid ob
  have B0 := hid b0
  obtain ⟨q0, q1, q2, q3, q4, q5, q6, q7⟩ := ob.at
  have r5 := keep b0 p5
  have r0 := After.cell q0
  have s5 := After.cell r5
  have hSeat := fun (q : After w0) => seat_any o.id (HS.out.below (on B0.out q.h))
  clear h hn hw0 ob b0 hx
  haveI := After.ne w0
  cases hi : m.osds.findIdx? (isId o.id) with
  | some k =>
    have hk0 : (0 : Int) ≤ (k : Int) := by omega
    rw [show idx (isId o.id) m.osds = (k : Int) by unfold idx; rw [hi]] at hSeat
    have HI : Hid (addP m.osds o = (6, m.osds)) := by unfold addP; rw [hi]; rfl
    obtain ⟨i0, i1, i2, i3, i4, i5, i6, i7⟩ := o
    unfold vO
    dsimp only at r0 hSeat HW ⊢
    clear hi
    go_enter Try.func58, Try.ntmps58
    go_wp2_with fail
    rw [← HW.out]
    refine wp_region_after (by kernel_rfl) (by kernel_rfl) ?_
    repeat (go_big_quiet_step ((go_at_call 33; refine Calls.after_of (hSeat _))))
    refine wpQuiet_nil ?_
    rintro _ ⟨q, rfl⟩
    go_wp2_with fail
    go_ret
    rw [HI.out]
    exact ⟨rfl, Turned.not HM.out (on B0.out q.h)⟩
  | none =>
    rw [show idx (isId o.id) m.osds = -1 by unfold idx; rw [hi]] at hSeat
    by_cases h64 : 64 ≤ n
    · have HI : Hid (addP m.osds o = (2, m.osds)) := hid (by unfold addP; rw [hi, if_neg (by simp), if_pos (by rw [← HN.out]; exact h64)])
      have h64i : (64 : Int) ≤ (n : Int) := by omega
      obtain ⟨i0, i1, i2, i3, i4, i5, i6, i7⟩ := o
      unfold vO
      dsimp only at r0 hSeat HW ⊢
      clear hi
      go_enter Try.func58, Try.ntmps58
      go_wp2_with fail
      rw [← HW.out]
      refine wp_region_after (by kernel_rfl) (by kernel_rfl) ?_
      repeat (go_big_quiet_step ((go_at_call 33; refine Calls.after_of (hSeat _))))
      refine wpQuiet_nil ?_
      rintro _ ⟨q, rfl⟩
      go_wp2_with fail
      go_ret
      rw [HI.out]
      exact ⟨rfl, Turned.not HM.out (on B0.out q.h)⟩
    · have h64i : (n : Int) < 64 := by omega
      have hMv := fun (q : After w0) (q2 : After q.W) => moved_any o (HS.out.below (on (on B0.out q.h) q2.h))
      obtain ⟨t, ht⟩ : ∃ t, t = movedB m.osds o := ⟨_, rfl⟩
      rw [← ht] at hMv
      have HI : Hid (addP m.osds o = if t then (1, m.osds) else (0, ins o m.osds)) := hid (by unfold addP; rw [hi, if_neg (by simp), if_neg (by rw [← HN.out]; exact h64), ht])
      have HE : Hid (∀ W, Below w.heap.size w W → W.cell? ⟨w.heap.size, 0, none⟩ = some (.int .i64 o.id) → Calls Try.prog 54 #[.slice x n c, .func (.func 79) #[] #[.pointer (some ⟨w.heap.size, 0, none⟩)]] W fun e w' => e = .returned (.int .i64 (idx (overId o.id) m.osds)) ∧ Below W.heap.size W w') := fun W hW hc =>
        index_any (overId o.id) 79 _ (enters_of Try.func79 (by kernel_rfl) rfl) (HS.out.below hW) (add_clos W w.heap.size o.id hc)
      have hAt := idx_inAt o m.osds
      have hAl := inAt_le o m.osds
      rw [← HN.out] at hAt hAl
      have HA : Hid (ins o m.osds = m.osds.take (inAt o m.osds) ++ o :: m.osds.drop (inAt o m.osds)) := ins_at o m.osds
      generalize inAt o m.osds = at_ at *
      generalize idx (overId o.id) m.osds = ix at *
      clear hi h64 ht q0 q1 q2 q3 q4 q5 q6 q7
      have HOo : Hid (∃ o', o' = o) := ⟨o, rfl⟩
      obtain ⟨oo, hoo⟩ : ∃ o', o' = o := ⟨o, rfl⟩
      have HQ := hid hoo
      rw [← hoo] at HI HA HBx HE
      have hMv2 := hMv
      clear hoo
      obtain ⟨i0, i1, i2, i3, i4, i5, i6, i7⟩ := o
      unfold vO at hMv ⊢
      dsimp only at r0 hSeat HW hMv ⊢
      clear hMv2
      go_enter Try.func58, Try.ntmps58
      go_wp2_with fail
      rw [← HW.out]
      refine wp_region_after (by kernel_rfl) (by kernel_rfl) ?_
      repeat (go_big_quiet_step ((go_at_call 33; refine Calls.after_of (hSeat _))))
      refine wpQuiet_nil ?_
      rintro _ ⟨q, rfl⟩
      have hMq := hMv q
      have u5 := s5 q
      have B1 : Hid (Below w.heap.size w q.W) := on B0.out q.h
      have ob1 : OBox q.W w.heap.size oo := (q.h.block _ HBx.out.lt).trans HBx.out
      have HB1 := hid ob1
      obtain ⟨v0, v1, v2, v3, v4, v5, v6, v7⟩ := ob1.at
      rw [HQ.out] at v0 v1 v2 v3 v4 v5 v6 v7
      dsimp only at v0 v1 v2 v3 v4 v5 v6 v7
      clear hMv hSeat s5 r0 r5 ob1
      have hq1 := q.h.size
      generalize q.W = W1 at *
      haveI := After.ne W1
      have a0 := After.cell v0
      have a1 := After.cell v1
      have a2 := After.cell v2
      have a3 := After.cell v3
      have a4 := After.cell v4
      have a5 := After.cell v5
      have a6 := After.cell v6
      have a7 := After.cell v7
      have z5 := After.cell u5
      go_wp2_with fail
      refine wp_region_after (by kernel_rfl) (by kernel_rfl) ?_
      cases t with
      | true =>
        repeat (go_big_quiet_step ((go_at_call 57; refine Calls.after_of (hMq _))))
        refine wpQuiet_nil ?_
        rintro _ ⟨q2, rfl⟩
        go_wp2_with fail
        go_ret
        rw [← HQ.out, HI.out]
        exact ⟨rfl, Turned.not HM.out (on B1.out q2.h)⟩
      | false =>
        repeat (go_big_quiet_step ((go_at_call 57; refine Calls.after_of (hMq _))))
        refine wpQuiet_nil ?_
        rintro _ ⟨q2, rfl⟩
        have hIx := HE.out q2.W (on B1.out q2.h) (by rw [HQ.out]; exact keep q2.h v0)
        have y5 := keep q2.h u5
        have B2 : Hid (Below w.heap.size w q2.W) := on B1.out q2.h
        have ob2 : OBox q2.W w.heap.size oo := (q2.h.block _ HB1.out.lt).trans HB1.out
        have HB2 := hid ob2
        clear hMq a0 a1 a2 a3 a4 a5 a6 a7 z5 v0 v1 v2 v3 v4 v5 v6 v7 u5 ob2
        generalize q2.W = W2 at *
        rcases hAt with hA | ⟨hA, hA2⟩
        · subst hA
          have hng : ¬ (at_ : Int) < 0 := by omega
          go_wp2_with (go_at_call 54; refine hIx.mono ?_; rintro e w3 ⟨rfl, hb3⟩; clear hIx; have x5 := keep hb3 y5)
          have B3 : Below w.heap.size w w3.drew := (on B2.out hb3).drew
          have ob3 : OBox w3.drew w.heap.size oo := (hb3.block _ HB2.out.lt).trans HB2.out
          have x5 : w3.drew.cell? ⟨p, 5, none⟩ = some (.slice x n c) := keep hb3.drew y5
          have HB3 := hid ob3
          generalize hwD : w3.drew = wD at *
          have HWD := hid hwD
          obtain ⟨v0, v1, v2, v3, v4, v5, v6, v7⟩ := ob3.at
          rw [HQ.out] at v0 v1 v2 v3 v4 v5 v6 v7
          dsimp only at v0 v1 v2 v3 v4 v5 v6 v7
          have oN : OBox (wD.alloc (.cells #[.int .i64 i0, .bool i1, .bool i2, .int .i64 i3, .int .i64 i4, .int .i64 i5, .int .i64 i6, .int .i64 i7] 28)) wD.heap.size oo := by rw [HQ.out]; exact heap_alloc_new _ _
          have bN := al wD (.cells #[.int .i64 i0, .bool i1, .bool i2, .int .i64 i3, .int .i64 i4, .int .i64 i5, .int .i64 i6, .int .i64 i7] 28)
          have hMN := HM.out.below (on B3 bN)
          have hrow : ∀ g, (Value.slice x n c).ownBlock = some g → g < w.heap.size ∧ g ≠ p := fun g hg => ⟨(World.ownsRow.lt HM.out.own g hg).2, HM.out.apart hg⟩
          have HR := hid hrow
          have hI := insert_any (i := at_) hMN.own oN (fun e => by have := (hrow _ e).1; have := B3.size; omega) (by have := (on B3 bN).size; omega) (by omega) (by omega)
          have e5 := keep bN x5
          have e0 := keep bN v0
          have e1 := keep bN v1
          have e2 := keep bN v2
          have e3 := keep bN v3
          have e4 := keep bN v4
          have e5' := keep bN v5
          have e6 := keep bN v6
          have e7 := keep bN v7
          have HMN := hid hMN
          have HBN := hid (on B3 bN)
          clear oN hMN bN hrow ob3 B3 hb3 y5 hwD
          refine wp_region_last (fun v => v.cell? ⟨p, 5, none⟩ = some (.slice x n c) ∧ v.cell? ⟨w.heap.size, 0, none⟩ = some (.int .i64 i0) ∧ v.cell? ⟨w.heap.size, 1, none⟩ = some (.bool i1) ∧ v.cell? ⟨w.heap.size, 2, none⟩ = some (.bool i2) ∧ v.cell? ⟨w.heap.size, 3, none⟩ = some (.int .i64 i3) ∧ v.cell? ⟨w.heap.size, 4, none⟩ = some (.int .i64 i4) ∧ v.cell? ⟨w.heap.size, 5, none⟩ = some (.int .i64 i5) ∧ v.cell? ⟨w.heap.size, 6, none⟩ = some (.int .i64 i6) ∧ v.cell? ⟨w.heap.size, 7, none⟩ = some (.int .i64 i7)) 11 (by kernel_rfl) (by rw [HWD.out]; exact ⟨x5, v0, v1, v2, v3, v4, v5, v6, v7⟩) (fun hS => ?_)
          rw [HWD.out] at hS ⊢
          clear x5 v0 v1 v2 v3 v4 v5 v6 v7
          refine wpAnyL_take (i := 0) (v := ?_) rfl (by kernel_rfl) (by kernel_rfl) (by kernel_rfl) (by kernel_rfl) (fun _ _ _ h => h) hS (Or.inl ⟨by rfl, ?_⟩) ?_
          case refine_2 => (intro w hSw; (try dsimp only at hSw); go_simp; (try with_reducible rfl))
          (try simp only [Act.put, List.setIfInBounds_toArray, List.set_cons_zero, List.set_cons_succ])
          refine wpAnyL_take (i := 1) (v := ?_) rfl (by kernel_rfl) (by kernel_rfl) (by kernel_rfl) (by kernel_rfl) (fun _ _ _ h => h) hS (Or.inl ⟨by rfl, ?_⟩) ?_
          case refine_2 => (intro w hSw; (try dsimp only at hSw); go_simp; (try with_reducible rfl))
          (try simp only [Act.put, List.setIfInBounds_toArray, List.set_cons_zero, List.set_cons_succ])
          refine wpAnyL_take (i := 2) (v := ?_) rfl (by kernel_rfl) (by kernel_rfl) (by kernel_rfl) (by kernel_rfl) (fun _ _ _ h => h) hS (Or.inl ⟨by rfl, ?_⟩) ?_
          case refine_2 => (intro w hSw; (try dsimp only at hSw); go_simp; (try with_reducible rfl))
          (try simp only [Act.put, List.setIfInBounds_toArray, List.set_cons_zero, List.set_cons_succ])
          refine wpAnyL_take (i := 3) (v := ?_) rfl (by kernel_rfl) (by kernel_rfl) (by kernel_rfl) (by kernel_rfl) (fun _ _ _ h => h) hS (Or.inl ⟨by rfl, ?_⟩) ?_
          case refine_2 => (intro w hSw; (try dsimp only at hSw); go_simp; (try with_reducible rfl))
          (try simp only [Act.put, List.setIfInBounds_toArray, List.set_cons_zero, List.set_cons_succ])
          refine wpAnyL_take (i := 4) (v := ?_) rfl (by kernel_rfl) (by kernel_rfl) (by kernel_rfl) (by kernel_rfl) (fun _ _ _ h => h) hS (Or.inl ⟨by rfl, ?_⟩) ?_
          case refine_2 => (intro w hSw; (try dsimp only at hSw); go_simp; (try with_reducible rfl))
          (try simp only [Act.put, List.setIfInBounds_toArray, List.set_cons_zero, List.set_cons_succ])
          refine wpAnyL_take (i := 5) (v := ?_) rfl (by kernel_rfl) (by kernel_rfl) (by kernel_rfl) (by kernel_rfl) (fun _ _ _ h => h) hS (Or.inl ⟨by rfl, ?_⟩) ?_
          case refine_2 => (intro w hSw; (try dsimp only at hSw); go_simp; (try with_reducible rfl))
          (try simp only [Act.put, List.setIfInBounds_toArray, List.set_cons_zero, List.set_cons_succ])
          refine wpAnyL_take (i := 6) (v := ?_) rfl (by kernel_rfl) (by kernel_rfl) (by kernel_rfl) (by kernel_rfl) (fun _ _ _ h => h) hS (Or.inl ⟨by rfl, ?_⟩) ?_
          case refine_2 => (intro w hSw; (try dsimp only at hSw); go_simp; (try with_reducible rfl))
          (try simp only [Act.put, List.setIfInBounds_toArray, List.set_cons_zero, List.set_cons_succ])
          refine wpAnyL_one (i := 7) (by kernel_rfl) rfl (fun K hK => ?_)
          go_simp
          refine hK.out _ _ (fun _ => ⟨e5, e0, e1, e2, e3, e4, e5', e6, e7⟩) ?_
          clear hK K
          refine wpAnyL_one (i := 8) (by kernel_rfl) rfl (fun K hK => ?_)
          go_simp
          refine hI.mono ?_
          rintro e w5 ⟨x', c', rfl, H5⟩
          have T5 := H5.out.2.1
          have hK : ∀ (b q : Nat) (v : Value), (b = p ∨ b = w.heap.size) → (wD.alloc (.cells #[.int .i64 i0, .bool i1, .bool i2, .int .i64 i3, .int .i64 i4, .int .i64 i5, .int .i64 i6, .int .i64 i7] 28)).cell? ⟨b, q, none⟩ = some v → w5.cell? ⟨b, q, none⟩ = some v := fun b q v hb hv =>
            (World.cell?_of_block (a := ⟨b, q, none⟩) (T5.block b (cell_lt' hv) (fun e => by have := HR.out b e; omega))).trans hv
          have d5 := hK _ _ _ (.inl rfl) e5
          have d0 := hK _ _ _ (.inr rfl) e0
          have d1 := hK _ _ _ (.inr rfl) e1
          have d2 := hK _ _ _ (.inr rfl) e2
          have d3 := hK _ _ _ (.inr rfl) e3
          have d4 := hK _ _ _ (.inr rfl) e4
          have d5' := hK _ _ _ (.inr rfl) e5'
          have d6 := hK _ _ _ (.inr rfl) e6
          have d7 := hK _ _ _ (.inr rfl) e7
          have hp5 : w5.heap[p]? = some (.cells #[.int .i64 m.ep, .int .i64 m.pool.k, .int .i64 m.pool.m, .int .i64 m.pool.pgs, .int .i64 m.pool.dom, .slice x n c] 26 (0, 0)) := (T5.block p HMN.out.lt (fun e => (HR.out p e).2 rfl)).trans HMN.out.blk
          have HP5 := hid hp5
          have f5 := fr_heap hp5 5
          clear hK T5 hp5
          refine hK.out _ _ (fun _ => ⟨d5, d0, d1, d2, d3, d4, d5', d6, d7⟩) ?_
          clear hK K
          refine wpAnyL_one (i := 9) (by kernel_rfl) rfl (fun K hK => ?_)
          go_simp
          refine hK.out _ _ (fun _ => ⟨d5, d0, d1, d2, d3, d4, d5', d6, d7⟩) ?_
          clear hK K
          refine wpAnyL_one (i := 10) (by kernel_rfl) rfl (fun K hK => ?_)
          go_simp
          refine hK.out _ _ (fun _ => ⟨d5, d0, d1, d2, d3, d4, d5', d6, d7⟩) ?_
          clear hK K
          refine wpAnyL_one (i := 11) (by kernel_rfl) rfl (fun K hK => ?_)
          go_simp
          refine hK.out _ _ (fun h => absurd rfl h) ?_
          clear hK K
          refine wpAnyL_done (by kernel_rfl) ?_ _
          go_wp2_with fail
          go_ret
          rw [← HQ.out, HI.out]
          exact ⟨rfl, added HM.out HBN.out H5.out HP5.out (by omega) HA.out HN.out⟩
        · subst hA
          subst hA2
          go_wp2_with (go_at_call 54; refine hIx.mono ?_; rintro e w3 ⟨rfl, hb3⟩; clear hIx; have x5 := keep hb3 y5)
          have B3 : Below w.heap.size w w3.drew := (on B2.out hb3).drew
          have ob3 : OBox w3.drew w.heap.size oo := (hb3.block _ HB2.out.lt).trans HB2.out
          have x5 : w3.drew.cell? ⟨p, 5, none⟩ = some (.slice x at_ c) := keep hb3.drew y5
          have HB3 := hid ob3
          generalize hwD : w3.drew = wD at *
          have HWD := hid hwD
          obtain ⟨v0, v1, v2, v3, v4, v5, v6, v7⟩ := ob3.at
          rw [HQ.out] at v0 v1 v2 v3 v4 v5 v6 v7
          dsimp only at v0 v1 v2 v3 v4 v5 v6 v7
          have oN : OBox (wD.alloc (.cells #[.int .i64 i0, .bool i1, .bool i2, .int .i64 i3, .int .i64 i4, .int .i64 i5, .int .i64 i6, .int .i64 i7] 28)) wD.heap.size oo := by rw [HQ.out]; exact heap_alloc_new _ _
          have bN := al wD (.cells #[.int .i64 i0, .bool i1, .bool i2, .int .i64 i3, .int .i64 i4, .int .i64 i5, .int .i64 i6, .int .i64 i7] 28)
          have hMN := HM.out.below (on B3 bN)
          have hrow : ∀ g, (Value.slice x at_ c).ownBlock = some g → g < w.heap.size ∧ g ≠ p := fun g hg => ⟨(World.ownsRow.lt HM.out.own g hg).2, HM.out.apart hg⟩
          have HR := hid hrow
          have hI := insert_any (i := at_) hMN.own oN (fun e => by have := (hrow _ e).1; have := B3.size; omega) (by have := (on B3 bN).size; omega) (by omega) (by omega)
          have e5 := keep bN x5
          have e0 := keep bN v0
          have e1 := keep bN v1
          have e2 := keep bN v2
          have e3 := keep bN v3
          have e4 := keep bN v4
          have e5' := keep bN v5
          have e6 := keep bN v6
          have e7 := keep bN v7
          have HMN := hid hMN
          have HBN := hid (on B3 bN)
          clear oN hMN bN hrow ob3 B3 hb3 y5 hwD
          refine wp_region_last (fun v => v.cell? ⟨p, 5, none⟩ = some (.slice x at_ c) ∧ v.cell? ⟨w.heap.size, 0, none⟩ = some (.int .i64 i0) ∧ v.cell? ⟨w.heap.size, 1, none⟩ = some (.bool i1) ∧ v.cell? ⟨w.heap.size, 2, none⟩ = some (.bool i2) ∧ v.cell? ⟨w.heap.size, 3, none⟩ = some (.int .i64 i3) ∧ v.cell? ⟨w.heap.size, 4, none⟩ = some (.int .i64 i4) ∧ v.cell? ⟨w.heap.size, 5, none⟩ = some (.int .i64 i5) ∧ v.cell? ⟨w.heap.size, 6, none⟩ = some (.int .i64 i6) ∧ v.cell? ⟨w.heap.size, 7, none⟩ = some (.int .i64 i7)) 11 (by kernel_rfl) (by rw [HWD.out]; exact ⟨x5, v0, v1, v2, v3, v4, v5, v6, v7⟩) (fun hS => ?_)
          rw [HWD.out] at hS ⊢
          clear x5 v0 v1 v2 v3 v4 v5 v6 v7
          refine wpAnyL_take (i := 0) (v := ?_) rfl (by kernel_rfl) (by kernel_rfl) (by kernel_rfl) (by kernel_rfl) (fun _ _ _ h => h) hS (Or.inl ⟨by rfl, ?_⟩) ?_
          case refine_2 => (intro w hSw; (try dsimp only at hSw); go_simp; (try with_reducible rfl))
          (try simp only [Act.put, List.setIfInBounds_toArray, List.set_cons_zero, List.set_cons_succ])
          refine wpAnyL_take (i := 1) (v := ?_) rfl (by kernel_rfl) (by kernel_rfl) (by kernel_rfl) (by kernel_rfl) (fun _ _ _ h => h) hS (Or.inl ⟨by rfl, ?_⟩) ?_
          case refine_2 => (intro w hSw; (try dsimp only at hSw); go_simp; (try with_reducible rfl))
          (try simp only [Act.put, List.setIfInBounds_toArray, List.set_cons_zero, List.set_cons_succ])
          refine wpAnyL_take (i := 2) (v := ?_) rfl (by kernel_rfl) (by kernel_rfl) (by kernel_rfl) (by kernel_rfl) (fun _ _ _ h => h) hS (Or.inl ⟨by rfl, ?_⟩) ?_
          case refine_2 => (intro w hSw; (try dsimp only at hSw); go_simp; (try with_reducible rfl))
          (try simp only [Act.put, List.setIfInBounds_toArray, List.set_cons_zero, List.set_cons_succ])
          refine wpAnyL_take (i := 3) (v := ?_) rfl (by kernel_rfl) (by kernel_rfl) (by kernel_rfl) (by kernel_rfl) (fun _ _ _ h => h) hS (Or.inl ⟨by rfl, ?_⟩) ?_
          case refine_2 => (intro w hSw; (try dsimp only at hSw); go_simp; (try with_reducible rfl))
          (try simp only [Act.put, List.setIfInBounds_toArray, List.set_cons_zero, List.set_cons_succ])
          refine wpAnyL_take (i := 4) (v := ?_) rfl (by kernel_rfl) (by kernel_rfl) (by kernel_rfl) (by kernel_rfl) (fun _ _ _ h => h) hS (Or.inl ⟨by rfl, ?_⟩) ?_
          case refine_2 => (intro w hSw; (try dsimp only at hSw); go_simp; (try with_reducible rfl))
          (try simp only [Act.put, List.setIfInBounds_toArray, List.set_cons_zero, List.set_cons_succ])
          refine wpAnyL_take (i := 5) (v := ?_) rfl (by kernel_rfl) (by kernel_rfl) (by kernel_rfl) (by kernel_rfl) (fun _ _ _ h => h) hS (Or.inl ⟨by rfl, ?_⟩) ?_
          case refine_2 => (intro w hSw; (try dsimp only at hSw); go_simp; (try with_reducible rfl))
          (try simp only [Act.put, List.setIfInBounds_toArray, List.set_cons_zero, List.set_cons_succ])
          refine wpAnyL_take (i := 6) (v := ?_) rfl (by kernel_rfl) (by kernel_rfl) (by kernel_rfl) (by kernel_rfl) (fun _ _ _ h => h) hS (Or.inl ⟨by rfl, ?_⟩) ?_
          case refine_2 => (intro w hSw; (try dsimp only at hSw); go_simp; (try with_reducible rfl))
          (try simp only [Act.put, List.setIfInBounds_toArray, List.set_cons_zero, List.set_cons_succ])
          refine wpAnyL_one (i := 7) (by kernel_rfl) rfl (fun K hK => ?_)
          go_simp
          refine hK.out _ _ (fun _ => ⟨e5, e0, e1, e2, e3, e4, e5', e6, e7⟩) ?_
          clear hK K
          refine wpAnyL_one (i := 8) (by kernel_rfl) rfl (fun K hK => ?_)
          go_simp
          refine hI.mono ?_
          rintro e w5 ⟨x', c', rfl, H5⟩
          have T5 := H5.out.2.1
          have hK : ∀ (b q : Nat) (v : Value), (b = p ∨ b = w.heap.size) → (wD.alloc (.cells #[.int .i64 i0, .bool i1, .bool i2, .int .i64 i3, .int .i64 i4, .int .i64 i5, .int .i64 i6, .int .i64 i7] 28)).cell? ⟨b, q, none⟩ = some v → w5.cell? ⟨b, q, none⟩ = some v := fun b q v hb hv =>
            (World.cell?_of_block (a := ⟨b, q, none⟩) (T5.block b (cell_lt' hv) (fun e => by have := HR.out b e; omega))).trans hv
          have d5 := hK _ _ _ (.inl rfl) e5
          have d0 := hK _ _ _ (.inr rfl) e0
          have d1 := hK _ _ _ (.inr rfl) e1
          have d2 := hK _ _ _ (.inr rfl) e2
          have d3 := hK _ _ _ (.inr rfl) e3
          have d4 := hK _ _ _ (.inr rfl) e4
          have d5' := hK _ _ _ (.inr rfl) e5'
          have d6 := hK _ _ _ (.inr rfl) e6
          have d7 := hK _ _ _ (.inr rfl) e7
          have hp5 : w5.heap[p]? = some (.cells #[.int .i64 m.ep, .int .i64 m.pool.k, .int .i64 m.pool.m, .int .i64 m.pool.pgs, .int .i64 m.pool.dom, .slice x at_ c] 26 (0, 0)) := (T5.block p HMN.out.lt (fun e => (HR.out p e).2 rfl)).trans HMN.out.blk
          have HP5 := hid hp5
          have f5 := fr_heap hp5 5
          clear hK T5 hp5
          refine hK.out _ _ (fun _ => ⟨d5, d0, d1, d2, d3, d4, d5', d6, d7⟩) ?_
          clear hK K
          refine wpAnyL_one (i := 9) (by kernel_rfl) rfl (fun K hK => ?_)
          go_simp
          refine hK.out _ _ (fun _ => ⟨d5, d0, d1, d2, d3, d4, d5', d6, d7⟩) ?_
          clear hK K
          refine wpAnyL_one (i := 10) (by kernel_rfl) rfl (fun K hK => ?_)
          go_simp
          refine hK.out _ _ (fun _ => ⟨d5, d0, d1, d2, d3, d4, d5', d6, d7⟩) ?_
          clear hK K
          refine wpAnyL_one (i := 11) (by kernel_rfl) rfl (fun K hK => ?_)
          go_simp
          refine hK.out _ _ (fun h => absurd rfl h) ?_
          clear hK K
          refine wpAnyL_done (by kernel_rfl) ?_ _
          go_wp2_with fail
          go_ret
          rw [← HQ.out, HI.out]
          exact ⟨rfl, added HM.out HBN.out H5.out HP5.out (by omega) HA.out HN.out⟩

end Go.Proofs.Ytnddhlkdemibgaa.At

/-
  Package atlas: the table of kinds.
  Conditions: none.
-/
namespace Go.Proofs.Ytnddhlkdemibgaa.At
open Go.RowKit By Fl
set_option linter.unusedVariables false
set_option linter.unusedSimpArgs false
set_option maxRecDepth 100000

def fn (k : Nat) : Value := .func (.func k) #[] #[]
def kindsV : Array Value := #[.nilFunc, .nilFunc, fn 56, fn 58, fn 59, fn 60, fn 61, fn 62, fn 61, fn 63, fn 61, fn 64, fn 65, fn 66]

theorem kinds_any (w : World) : Calls Try.prog 39 #[] w fun e w' => e = .returned (.agg kindsV) ∧ Below w.heap.size w w' := by
  go_enter Try.func39, Try.ntmps39
  go_wp2_with fail
  refine bodyPost_ret (v := .agg kindsV) ?_ rfl ?_
  · rw [results_cell1 rfl]
    unfold kindsV fn
    go_simp
  · refine ⟨rfl, ?_⟩
    exact al _ _

end Go.Proofs.Ytnddhlkdemibgaa.At

/-
  Package atlas: numbers within, pools, OSDs; the document's own.
  Conditions: none.
-/
namespace Go.Proofs.Ytnddhlkdemibgaa.At
open Go.RowKit By Fl
set_option linter.unusedVariables false
set_option linter.unusedSimpArgs false
set_option maxRecDepth 100000

theorem within_any (n a b : Int) (w : World) : Calls Try.prog 36 #[.int .i64 n, .int .i64 a, .int .i64 b] w fun e w' => e = .returned (.bool (wi n a b)) ∧ w' = w := by
  unfold wi
  by_cases h : a ≤ n
  · go_enter Try.func36, Try.ntmps36
    go_wp2_with fail
    go_ret
    exact ⟨by simp [h], rfl⟩
  · go_enter Try.func36, Try.ntmps36
    go_wp2_with fail
    go_ret
    exact ⟨by simp; omega, rfl⟩

theorem poolMay_any (p : Pool) (w : World) (hk : p.k ≤ 9223372036854775807) : Calls Try.prog 32 #[vP p] w fun e w' => e = .returned (.bool (poolB p)) ∧ Below w.heap.size w w' := by
  obtain ⟨k, m, g, d⟩ := p
  unfold vP poolB
  dsimp only at hk ⊢
  have hW := fun n a b W => within_any n a b W
  have b0 := fun x => al w x
  by_cases h1 : 1 ≤ k
  · have hsub : IntKind.i64.wrap (32 - k) = 32 - k := by rw [IntKind.wrap_i64]; omega
    clear hk
    go_enter Try.func32, Try.ntmps32
    go_wp2_with (go_at_call 36; refine (hW _ _ _ _).mono ?_; rintro e w1 ⟨rfl, rfl⟩)
    all_goals clear hW
    all_goals (go_ret; exact ⟨by simp_all, b0 _⟩)
  · go_enter Try.func32, Try.ntmps32
    go_wp2_with fail
    go_ret
    exact ⟨by simp; omega, b0 _⟩

theorem osdMay_any (o : Osd) (w : World) : Calls Try.prog 56 #[vO o] w fun e w' => e = .returned (.bool (osdB o)) ∧ Below w.heap.size w w' := by
  obtain ⟨id, up, inn, wt, life, boot, host, rack⟩ := o
  unfold vO osdB least
  dsimp only
  have hW := fun n a b W => within_any n a b W
  have b0 := fun x => al w x
  cases up with
  | true =>
    go_enter Try.func56, Try.ntmps56
    go_wp2_with (go_at_call 36; refine (hW _ _ _ _).mono ?_; rintro e w1 ⟨rfl, rfl⟩)
    all_goals clear hW
    all_goals (go_ret; exact ⟨by simp_all, b0 _⟩)
  | false =>
    go_enter Try.func56, Try.ntmps56
    go_wp2_with (go_at_call 36; refine (hW _ _ _ _).mono ?_; rintro e w1 ⟨rfl, rfl⟩)
    all_goals clear hW
    all_goals (go_ret; exact ⟨by simp_all, b0 _⟩)

/- The document's. -/
theorem rwithin_any (n a b : Int) (w : World) : Calls Try.prog 35 #[.int .i64 n, .int .i64 a, .int .i64 b] w fun e w' => e = .returned (.bool (wi n a b)) ∧ w' = w := by
  unfold wi
  by_cases h : a ≤ n
  · go_enter Try.func35, Try.ntmps35
    go_wp2_with fail
    go_ret
    exact ⟨by simp [h], rfl⟩
  · go_enter Try.func35, Try.ntmps35
    go_wp2_with fail
    go_ret
    exact ⟨by simp; omega, rfl⟩

theorem rpool_any (p : Pool) (w : World) : Calls Try.prog 13 #[vP p] w fun e w' => e = .returned (.bool (poolB p)) ∧ Below w.heap.size w w' := by
  obtain ⟨k, m, g, d⟩ := p
  have hE : poolB ⟨k, m, g, d⟩ = (wi k 1 32 && wi m 1 32 && decide (k + m ≤ 32) && wi g 1 32 && wi d 0 2) := by
    unfold poolB
    dsimp only
    congr 2
    rw [Bool.eq_iff_iff]
    simp only [Bool.and_eq_true, decide_eq_true_eq, wi_iff]
    omega
  rw [hE]
  clear hE
  unfold vP
  dsimp only
  have hW := fun n a b W => rwithin_any n a b W
  have b0 := fun x => al w x
  by_cases h : (1 ≤ k ∧ k ≤ 32) ∧ 1 ≤ m ∧ m ≤ 32
  · have hk : wi k 1 32 = true := (wi_iff _ _ _).2 h.1
    have hm : wi m 1 32 = true := (wi_iff _ _ _).2 h.2
    have hadd : IntKind.i64.wrap (k + m) = k + m := by rw [IntKind.wrap_i64]; omega
    have H : Hid (wi k 1 32 = true ∧ wi m 1 32 = true) := ⟨hk, hm⟩
    clear h
    go_enter Try.func13, Try.ntmps13
    go_wp2_with (go_at_call 35; refine (hW _ _ _ _).mono ?_; rintro e w1 ⟨rfl, rfl⟩)
    all_goals clear hW
    all_goals (go_ret; exact ⟨by obtain ⟨h1, h2⟩ := H.out; clear H; first | (simp_all; done) | (simp_all; omega), b0 _⟩)
  · have H : Hid (¬ (wi k 1 32 = true ∧ wi m 1 32 = true)) := fun e => h ⟨(wi_iff _ _ _).1 e.1, (wi_iff _ _ _).1 e.2⟩
    clear h
    go_enter Try.func13, Try.ntmps13
    go_wp2_with (go_at_call 35; refine (hW _ _ _ _).mono ?_; rintro e w1 ⟨rfl, rfl⟩)
    all_goals clear hW
    all_goals first
      | (exfalso; exact H.out ⟨by assumption, by assumption⟩)
      | (go_ret; exact ⟨by simp_all, b0 _⟩)

theorem rosd_any (o : Osd) (w : World) : Calls Try.prog 38 #[vO o] w fun e w' => e = .returned (.bool (osdB o)) ∧ Below w.heap.size w w' := by
  obtain ⟨id, up, inn, wt, life, boot, host, rack⟩ := o
  have hE : osdB ⟨id, up, inn, wt, life, boot, host, rack⟩ = (wi id 0 999 && wi host 0 999 && wi rack 0 999 && wi wt 0 16777216 && wi life 0 2147483647 && wi boot 0 2147483647 && (!up || (decide (0 < life) && decide (0 < boot)))) := by
    unfold osdB least
    dsimp only
    rw [Bool.eq_iff_iff]
    cases up
    · simp only [Bool.and_eq_true, decide_eq_true_eq, wi_iff, Bool.not_false, Bool.true_or, and_true]
      simp
    · simp only [Bool.and_eq_true, decide_eq_true_eq, wi_iff, Bool.not_true, Bool.false_or]
      simp
      omega
  rw [hE]
  clear hE
  unfold vO
  dsimp only
  have hW := fun n a b W => rwithin_any n a b W
  have b0 := fun x => al w x
  cases up with
  | true =>
    go_enter Try.func38, Try.ntmps38
    go_wp2_with (go_at_call 35; refine (hW _ _ _ _).mono ?_; rintro e w1 ⟨rfl, rfl⟩)
    all_goals clear hW
    all_goals (go_ret; exact ⟨by first | (simp_all; done) | (simp_all; omega), b0 _⟩)
  | false =>
    go_enter Try.func38, Try.ntmps38
    go_wp2_with (go_at_call 35; refine (hW _ _ _ _).mono ?_; rintro e w1 ⟨rfl, rfl⟩)
    all_goals clear hW
    all_goals (go_ret; exact ⟨by simp_all, b0 _⟩)

def errB (b : Bool) : Int := if b then 0 else 1

theorem errno_any (b : Bool) (w : World) : Calls Try.prog 12 #[.bool b] w fun e w' => e = .returned (.int .i64 (errB b)) ∧ w' = w := by
  unfold errB
  cases b with
  | true =>
    go_enter Try.func12, Try.ntmps12
    go_wp2_with fail
    go_ret
    exact ⟨rfl, rfl⟩
  | false =>
    go_enter Try.func12, Try.ntmps12
    go_wp2_with fail
    go_ret
    exact ⟨rfl, rfl⟩

end Go.Proofs.Ytnddhlkdemibgaa.At

/-
  Package atlas: which changes may be.
  Conditions: none.
-/
namespace Go.Proofs.Ytnddhlkdemibgaa.At
open Go.RowKit By Fl
set_option linter.unusedVariables false
set_option linter.unusedSimpArgs false
set_option maxRecDepth 100000

theorem wi_z (b : Int) (h : 0 ≤ b) : wi 0 0 b = true := (wi_iff _ _ _).2 ⟨by omega, h⟩

theorem upMay_any (o : Osd) (w : World) : Calls Try.prog 59 #[vO o] w fun e w' => e = .returned (.bool (upB o)) ∧ Below w.heap.size w w' := by
  have hE := fun W => eq_osd o ⟨o.id, false, false, 0, o.life, o.boot, 0, 0⟩ W
  have hO := fun W => osdMay_any ⟨o.id, true, false, 0, o.life, o.boot, 0, 0⟩ W
  have hX : osdB ⟨o.id, true, false, 0, o.life, o.boot, 0, 0⟩ = (wi o.id 0 999 && wi o.life 1 2147483647 && wi o.boot 1 2147483647) := by
    unfold osdB least
    dsimp only
    rw [wi_z 999 (by omega), wi_z 16777216 (by omega)]
    simp
  unfold upB
  rw [hX] at hO
  generalize (wi o.id 0 999 && wi o.life 1 2147483647 && wi o.boot 1 2147483647) = t2 at *
  generalize eqO o ⟨o.id, false, false, 0, o.life, o.boot, 0, 0⟩ = t1 at *
  clear hX
  obtain ⟨i, up, inn, wt, life, boot, host, rack⟩ := o
  unfold vO at hE hO ⊢
  dsimp only at hE hO ⊢
  have b0 := al w (.cells #[.int .i64 i, .bool up, .bool inn, .int .i64 wt, .int .i64 life, .int .i64 boot, .int .i64 host, .int .i64 rack] 28)
  cases t1 with
  | false =>
    go_enter Try.func59, Try.ntmps59
    go_wp2_with fail
    go_ret
    exact ⟨rfl, b0⟩
  | true =>
    go_enter Try.func59, Try.ntmps59
    go_wp2_with (go_at_call 56; refine (hO _).mono ?_; rintro e w2 ⟨rfl, hb2⟩)
    go_ret
    exact ⟨rfl, on b0 hb2⟩

theorem idMay_any (o : Osd) (w : World) : Calls Try.prog 61 #[vO o] w fun e w' => e = .returned (.bool (idB o)) ∧ Below w.heap.size w w' := by
  have hE := fun W => eq_osd o (noO o.id) W
  have hO := fun W => osdMay_any o W
  have hX : eqO o (noO o.id) = true → osdB o = wi o.id 0 999 := fun h => by
    rw [eqO_iff] at h
    rw [h]
    unfold osdB least noO
    dsimp only
    rw [wi_z 999 (by omega), wi_z 16777216 (by omega)]
    simp [wi]
  unfold idB
  generalize wi o.id 0 999 = t2 at *
  generalize eqO o (noO o.id) = t1 at *
  unfold noO at hE
  obtain ⟨i, up, inn, wt, life, boot, host, rack⟩ := o
  unfold vO at hE hO ⊢
  dsimp only at hE hO ⊢
  have b0 := al w (.cells #[.int .i64 i, .bool up, .bool inn, .int .i64 wt, .int .i64 life, .int .i64 boot, .int .i64 host, .int .i64 rack] 28)
  cases t1 with
  | false =>
    clear hX
    go_enter Try.func61, Try.ntmps61
    go_wp2_with fail
    go_ret
    exact ⟨rfl, b0⟩
  | true =>
    rw [hX rfl] at hO
    clear hX
    go_enter Try.func61, Try.ntmps61
    go_wp2_with (go_at_call 56; refine (hO _).mono ?_; rintro e w2 ⟨rfl, hb2⟩)
    go_ret
    exact ⟨rfl, on b0 hb2⟩

theorem weightMay_any (o : Osd) (w : World) : Calls Try.prog 65 #[vO o] w fun e w' => e = .returned (.bool (wtB o)) ∧ Below w.heap.size w w' := by
  have hE := fun W => eq_osd o ⟨o.id, false, false, o.wt, 0, 0, 0, 0⟩ W
  have hO := fun W => osdMay_any o W
  have hX : eqO o ⟨o.id, false, false, o.wt, 0, 0, 0, 0⟩ = true → osdB o = (wi o.id 0 999 && wi o.wt 0 16777216) := fun h => by
    rw [eqO_iff] at h
    rw [h]
    unfold osdB least
    dsimp only
    rw [wi_z 999 (by omega)]
    simp [wi]
  unfold wtB
  generalize (wi o.id 0 999 && wi o.wt 0 16777216) = t2 at *
  generalize eqO o ⟨o.id, false, false, o.wt, 0, 0, 0, 0⟩ = t1 at *
  obtain ⟨i, up, inn, wt, life, boot, host, rack⟩ := o
  unfold vO at hE hO ⊢
  dsimp only at hE hO ⊢
  have b0 := al w (.cells #[.int .i64 i, .bool up, .bool inn, .int .i64 wt, .int .i64 life, .int .i64 boot, .int .i64 host, .int .i64 rack] 28)
  cases t1 with
  | false =>
    clear hX
    go_enter Try.func65, Try.ntmps65
    go_wp2_with fail
    go_ret
    exact ⟨rfl, b0⟩
  | true =>
    rw [hX rfl] at hO
    clear hX
    go_enter Try.func65, Try.ntmps65
    go_wp2_with (go_at_call 56; refine (hO _).mono ?_; rintro e w2 ⟨rfl, hb2⟩)
    go_ret
    exact ⟨rfl, on b0 hb2⟩

end Go.Proofs.Ytnddhlkdemibgaa.At

/-
  Package atlas: CheckChange.
  Conditions: none.
-/
namespace Go.Proofs.Ytnddhlkdemibgaa.At
open Go.RowKit By Fl
set_option linter.unusedVariables false
set_option linter.unusedSimpArgs false
set_option maxRecDepth 100000

theorem kind_cases {k : Int} (h : wi k 1 6 = true) : k = 1 ∨ k = 2 ∨ k = 3 ∨ k = 4 ∨ k = 5 ∨ k = 6 := by
  rw [wi_iff] at h
  omega

theorem checkChange_no (k : Int) (o : Osd) (hk : wi k 1 6 = false) (w : World) : Calls Try.prog 17 #[vC ⟨k, o⟩] w fun e w' => e = .returned (.int .i64 1) ∧ Below w.heap.size w w' := by
  have hW := fun W => within_any k 1 6 W
  rw [hk] at hW
  obtain ⟨i, up, inn, wt, life, boot, host, rack⟩ := o
  unfold vC
  dsimp only
  have b0 := al w (.cells #[.int .i64 k, .int .i64 i, .bool up, .bool inn, .int .i64 wt, .int .i64 life, .int .i64 boot, .int .i64 host, .int .i64 rack] 30)
  obtain ⟨w0, hw0⟩ : ∃ w0, w0 = w.alloc (.cells #[.int .i64 k, .int .i64 i, .bool up, .bool inn, .int .i64 wt, .int .i64 life, .int .i64 boot, .int .i64 host, .int .i64 rack] 30) := ⟨_, rfl⟩
  have c0 : w0.cell? ⟨w.heap.size, 0, none⟩ = some (.int .i64 k) := by rw [hw0]; go_simp
  have q0 := After.cell c0
  haveI := After.ne w0
  have HW := hid hw0
  rw [← hw0] at b0
  clear hw0 c0 hk
  go_enter Try.func17, Try.ntmps17
  go_wp2_with fail
  rw [← HW.out]
  refine wp_region_after (by kernel_rfl) (by kernel_rfl) ?_
  repeat (go_big_quiet_step ((go_at_call 36; refine Calls.after_same (hW _))))
  refine wpQuiet_nil ?_
  rintro _ ⟨p, rfl⟩
  go_wp2_with fail
  go_ret
  exact ⟨rfl, on b0 p.h⟩

theorem checkChange_1 (o : Osd) (w : World) : Calls Try.prog 17 #[vC ⟨1, o⟩] w fun e w' => e = .returned (.int .i64 (errB (osdB o))) ∧ Below w.heap.size w w' := by
  have hW := fun W => within_any 1 1 6 W
  rw [show wi 1 1 6 = true from rfl] at hW
  have hK := fun W => kinds_any W
  have hI : ∀ W : World, (Instr.index 70 (.agg kindsV) (.int .i64 1)).run Try.prog W = .ok (.agg #[fn 56, fn 58]) W := fun _ => by kernel_rfl
  have hF : ∀ W : World, (Instr.field 69 (.agg #[fn 56, fn 58]) 0).run Try.prog W = .ok (fn 56) W := fun _ => by kernel_rfl
  unfold kindsV fn at hK hI
  unfold fn at hF
  have hO := fun W => osdMay_any o W
  generalize osdB o = t at *
  obtain ⟨i, up, inn, wt, life, boot, host, rack⟩ := o
  unfold vC
  unfold vO at hO
  dsimp only at hO ⊢
  have b0 := al w (.cells #[.int .i64 1, .int .i64 i, .bool up, .bool inn, .int .i64 wt, .int .i64 life, .int .i64 boot, .int .i64 host, .int .i64 rack] 30)
  obtain ⟨w0, hw0⟩ : ∃ w0, w0 = w.alloc (.cells #[.int .i64 1, .int .i64 i, .bool up, .bool inn, .int .i64 wt, .int .i64 life, .int .i64 boot, .int .i64 host, .int .i64 rack] 30) := ⟨_, rfl⟩
  have c0 : w0.cell? ⟨w.heap.size, 0, none⟩ = some (.int .i64 1) := by rw [hw0]; go_simp
  have c1 : w0.cell? ⟨w.heap.size, 1, none⟩ = some (.int .i64 i) := by rw [hw0]; go_simp
  have c2 : w0.cell? ⟨w.heap.size, 2, none⟩ = some (.bool up) := by rw [hw0]; go_simp
  have c3 : w0.cell? ⟨w.heap.size, 3, none⟩ = some (.bool inn) := by rw [hw0]; go_simp
  have c4 : w0.cell? ⟨w.heap.size, 4, none⟩ = some (.int .i64 wt) := by rw [hw0]; go_simp
  have c5 : w0.cell? ⟨w.heap.size, 5, none⟩ = some (.int .i64 life) := by rw [hw0]; go_simp
  have c6 : w0.cell? ⟨w.heap.size, 6, none⟩ = some (.int .i64 boot) := by rw [hw0]; go_simp
  have c7 : w0.cell? ⟨w.heap.size, 7, none⟩ = some (.int .i64 host) := by rw [hw0]; go_simp
  have c8 : w0.cell? ⟨w.heap.size, 8, none⟩ = some (.int .i64 rack) := by rw [hw0]; go_simp
  have q0 := After.cell c0
  have q1 := After.cell c1
  have q2 := After.cell c2
  have q3 := After.cell c3
  have q4 := After.cell c4
  have q5 := After.cell c5
  have q6 := After.cell c6
  have q7 := After.cell c7
  have q8 := After.cell c8
  haveI := After.ne w0
  have HW := hid hw0
  rw [← hw0] at b0
  clear hw0 c0 c1 c2 c3 c4 c5 c6 c7 c8
  go_enter Try.func17, Try.ntmps17
  go_wp2_with fail
  rw [← HW.out]
  cases t with
  | true =>
    refine wp_region_after (by kernel_rfl) (by kernel_rfl) ?_
    repeat (go_big_quiet_step ((first | (go_at_call 36; refine Calls.after_same (hW _)) | (go_at_call 39; refine Calls.after_of (hK _)) | (go_at_call 56; refine Calls.after_of (hO _)))))
    refine wpQuiet_nil ?_
    rintro _ ⟨p, rfl⟩
    go_wp2_with fail
    go_ret
    exact ⟨rfl, on b0 p.h⟩
  | false =>
    refine wp_region_after (by kernel_rfl) (by kernel_rfl) ?_
    repeat (go_big_quiet_step ((first | (go_at_call 36; refine Calls.after_same (hW _)) | (go_at_call 39; refine Calls.after_of (hK _)) | (go_at_call 56; refine Calls.after_of (hO _)))))
    refine wpQuiet_nil ?_
    rintro _ ⟨p, rfl⟩
    go_wp2_with fail
    go_ret
    exact ⟨rfl, on b0 p.h⟩

theorem checkChange_2 (o : Osd) (w : World) : Calls Try.prog 17 #[vC ⟨2, o⟩] w fun e w' => e = .returned (.int .i64 (errB (upB o))) ∧ Below w.heap.size w w' := by
  have hW := fun W => within_any 2 1 6 W
  rw [show wi 2 1 6 = true from rfl] at hW
  have hK := fun W => kinds_any W
  have hI : ∀ W : World, (Instr.index 70 (.agg kindsV) (.int .i64 2)).run Try.prog W = .ok (.agg #[fn 59, fn 60]) W := fun _ => by kernel_rfl
  have hF : ∀ W : World, (Instr.field 69 (.agg #[fn 59, fn 60]) 0).run Try.prog W = .ok (fn 59) W := fun _ => by kernel_rfl
  unfold kindsV fn at hK hI
  unfold fn at hF
  have hO := fun W => upMay_any o W
  generalize upB o = t at *
  obtain ⟨i, up, inn, wt, life, boot, host, rack⟩ := o
  unfold vC
  unfold vO at hO
  dsimp only at hO ⊢
  have b0 := al w (.cells #[.int .i64 2, .int .i64 i, .bool up, .bool inn, .int .i64 wt, .int .i64 life, .int .i64 boot, .int .i64 host, .int .i64 rack] 30)
  obtain ⟨w0, hw0⟩ : ∃ w0, w0 = w.alloc (.cells #[.int .i64 2, .int .i64 i, .bool up, .bool inn, .int .i64 wt, .int .i64 life, .int .i64 boot, .int .i64 host, .int .i64 rack] 30) := ⟨_, rfl⟩
  have c0 : w0.cell? ⟨w.heap.size, 0, none⟩ = some (.int .i64 2) := by rw [hw0]; go_simp
  have c1 : w0.cell? ⟨w.heap.size, 1, none⟩ = some (.int .i64 i) := by rw [hw0]; go_simp
  have c2 : w0.cell? ⟨w.heap.size, 2, none⟩ = some (.bool up) := by rw [hw0]; go_simp
  have c3 : w0.cell? ⟨w.heap.size, 3, none⟩ = some (.bool inn) := by rw [hw0]; go_simp
  have c4 : w0.cell? ⟨w.heap.size, 4, none⟩ = some (.int .i64 wt) := by rw [hw0]; go_simp
  have c5 : w0.cell? ⟨w.heap.size, 5, none⟩ = some (.int .i64 life) := by rw [hw0]; go_simp
  have c6 : w0.cell? ⟨w.heap.size, 6, none⟩ = some (.int .i64 boot) := by rw [hw0]; go_simp
  have c7 : w0.cell? ⟨w.heap.size, 7, none⟩ = some (.int .i64 host) := by rw [hw0]; go_simp
  have c8 : w0.cell? ⟨w.heap.size, 8, none⟩ = some (.int .i64 rack) := by rw [hw0]; go_simp
  have q0 := After.cell c0
  have q1 := After.cell c1
  have q2 := After.cell c2
  have q3 := After.cell c3
  have q4 := After.cell c4
  have q5 := After.cell c5
  have q6 := After.cell c6
  have q7 := After.cell c7
  have q8 := After.cell c8
  haveI := After.ne w0
  have HW := hid hw0
  rw [← hw0] at b0
  clear hw0 c0 c1 c2 c3 c4 c5 c6 c7 c8
  go_enter Try.func17, Try.ntmps17
  go_wp2_with fail
  rw [← HW.out]
  cases t with
  | true =>
    refine wp_region_after (by kernel_rfl) (by kernel_rfl) ?_
    repeat (go_big_quiet_step ((first | (go_at_call 36; refine Calls.after_same (hW _)) | (go_at_call 39; refine Calls.after_of (hK _)) | (go_at_call 59; refine Calls.after_of (hO _)))))
    refine wpQuiet_nil ?_
    rintro _ ⟨p, rfl⟩
    go_wp2_with fail
    go_ret
    exact ⟨rfl, on b0 p.h⟩
  | false =>
    refine wp_region_after (by kernel_rfl) (by kernel_rfl) ?_
    repeat (go_big_quiet_step ((first | (go_at_call 36; refine Calls.after_same (hW _)) | (go_at_call 39; refine Calls.after_of (hK _)) | (go_at_call 59; refine Calls.after_of (hO _)))))
    refine wpQuiet_nil ?_
    rintro _ ⟨p, rfl⟩
    go_wp2_with fail
    go_ret
    exact ⟨rfl, on b0 p.h⟩

theorem checkChange_3 (o : Osd) (w : World) : Calls Try.prog 17 #[vC ⟨3, o⟩] w fun e w' => e = .returned (.int .i64 (errB (idB o))) ∧ Below w.heap.size w w' := by
  have hW := fun W => within_any 3 1 6 W
  rw [show wi 3 1 6 = true from rfl] at hW
  have hK := fun W => kinds_any W
  have hI : ∀ W : World, (Instr.index 70 (.agg kindsV) (.int .i64 3)).run Try.prog W = .ok (.agg #[fn 61, fn 62]) W := fun _ => by kernel_rfl
  have hF : ∀ W : World, (Instr.field 69 (.agg #[fn 61, fn 62]) 0).run Try.prog W = .ok (fn 61) W := fun _ => by kernel_rfl
  unfold kindsV fn at hK hI
  unfold fn at hF
  have hO := fun W => idMay_any o W
  generalize idB o = t at *
  obtain ⟨i, up, inn, wt, life, boot, host, rack⟩ := o
  unfold vC
  unfold vO at hO
  dsimp only at hO ⊢
  have b0 := al w (.cells #[.int .i64 3, .int .i64 i, .bool up, .bool inn, .int .i64 wt, .int .i64 life, .int .i64 boot, .int .i64 host, .int .i64 rack] 30)
  obtain ⟨w0, hw0⟩ : ∃ w0, w0 = w.alloc (.cells #[.int .i64 3, .int .i64 i, .bool up, .bool inn, .int .i64 wt, .int .i64 life, .int .i64 boot, .int .i64 host, .int .i64 rack] 30) := ⟨_, rfl⟩
  have c0 : w0.cell? ⟨w.heap.size, 0, none⟩ = some (.int .i64 3) := by rw [hw0]; go_simp
  have c1 : w0.cell? ⟨w.heap.size, 1, none⟩ = some (.int .i64 i) := by rw [hw0]; go_simp
  have c2 : w0.cell? ⟨w.heap.size, 2, none⟩ = some (.bool up) := by rw [hw0]; go_simp
  have c3 : w0.cell? ⟨w.heap.size, 3, none⟩ = some (.bool inn) := by rw [hw0]; go_simp
  have c4 : w0.cell? ⟨w.heap.size, 4, none⟩ = some (.int .i64 wt) := by rw [hw0]; go_simp
  have c5 : w0.cell? ⟨w.heap.size, 5, none⟩ = some (.int .i64 life) := by rw [hw0]; go_simp
  have c6 : w0.cell? ⟨w.heap.size, 6, none⟩ = some (.int .i64 boot) := by rw [hw0]; go_simp
  have c7 : w0.cell? ⟨w.heap.size, 7, none⟩ = some (.int .i64 host) := by rw [hw0]; go_simp
  have c8 : w0.cell? ⟨w.heap.size, 8, none⟩ = some (.int .i64 rack) := by rw [hw0]; go_simp
  have q0 := After.cell c0
  have q1 := After.cell c1
  have q2 := After.cell c2
  have q3 := After.cell c3
  have q4 := After.cell c4
  have q5 := After.cell c5
  have q6 := After.cell c6
  have q7 := After.cell c7
  have q8 := After.cell c8
  haveI := After.ne w0
  have HW := hid hw0
  rw [← hw0] at b0
  clear hw0 c0 c1 c2 c3 c4 c5 c6 c7 c8
  go_enter Try.func17, Try.ntmps17
  go_wp2_with fail
  rw [← HW.out]
  cases t with
  | true =>
    refine wp_region_after (by kernel_rfl) (by kernel_rfl) ?_
    repeat (go_big_quiet_step ((first | (go_at_call 36; refine Calls.after_same (hW _)) | (go_at_call 39; refine Calls.after_of (hK _)) | (go_at_call 61; refine Calls.after_of (hO _)))))
    refine wpQuiet_nil ?_
    rintro _ ⟨p, rfl⟩
    go_wp2_with fail
    go_ret
    exact ⟨rfl, on b0 p.h⟩
  | false =>
    refine wp_region_after (by kernel_rfl) (by kernel_rfl) ?_
    repeat (go_big_quiet_step ((first | (go_at_call 36; refine Calls.after_same (hW _)) | (go_at_call 39; refine Calls.after_of (hK _)) | (go_at_call 61; refine Calls.after_of (hO _)))))
    refine wpQuiet_nil ?_
    rintro _ ⟨p, rfl⟩
    go_wp2_with fail
    go_ret
    exact ⟨rfl, on b0 p.h⟩

theorem checkChange_4 (o : Osd) (w : World) : Calls Try.prog 17 #[vC ⟨4, o⟩] w fun e w' => e = .returned (.int .i64 (errB (idB o))) ∧ Below w.heap.size w w' := by
  have hW := fun W => within_any 4 1 6 W
  rw [show wi 4 1 6 = true from rfl] at hW
  have hK := fun W => kinds_any W
  have hI : ∀ W : World, (Instr.index 70 (.agg kindsV) (.int .i64 4)).run Try.prog W = .ok (.agg #[fn 61, fn 63]) W := fun _ => by kernel_rfl
  have hF : ∀ W : World, (Instr.field 69 (.agg #[fn 61, fn 63]) 0).run Try.prog W = .ok (fn 61) W := fun _ => by kernel_rfl
  unfold kindsV fn at hK hI
  unfold fn at hF
  have hO := fun W => idMay_any o W
  generalize idB o = t at *
  obtain ⟨i, up, inn, wt, life, boot, host, rack⟩ := o
  unfold vC
  unfold vO at hO
  dsimp only at hO ⊢
  have b0 := al w (.cells #[.int .i64 4, .int .i64 i, .bool up, .bool inn, .int .i64 wt, .int .i64 life, .int .i64 boot, .int .i64 host, .int .i64 rack] 30)
  obtain ⟨w0, hw0⟩ : ∃ w0, w0 = w.alloc (.cells #[.int .i64 4, .int .i64 i, .bool up, .bool inn, .int .i64 wt, .int .i64 life, .int .i64 boot, .int .i64 host, .int .i64 rack] 30) := ⟨_, rfl⟩
  have c0 : w0.cell? ⟨w.heap.size, 0, none⟩ = some (.int .i64 4) := by rw [hw0]; go_simp
  have c1 : w0.cell? ⟨w.heap.size, 1, none⟩ = some (.int .i64 i) := by rw [hw0]; go_simp
  have c2 : w0.cell? ⟨w.heap.size, 2, none⟩ = some (.bool up) := by rw [hw0]; go_simp
  have c3 : w0.cell? ⟨w.heap.size, 3, none⟩ = some (.bool inn) := by rw [hw0]; go_simp
  have c4 : w0.cell? ⟨w.heap.size, 4, none⟩ = some (.int .i64 wt) := by rw [hw0]; go_simp
  have c5 : w0.cell? ⟨w.heap.size, 5, none⟩ = some (.int .i64 life) := by rw [hw0]; go_simp
  have c6 : w0.cell? ⟨w.heap.size, 6, none⟩ = some (.int .i64 boot) := by rw [hw0]; go_simp
  have c7 : w0.cell? ⟨w.heap.size, 7, none⟩ = some (.int .i64 host) := by rw [hw0]; go_simp
  have c8 : w0.cell? ⟨w.heap.size, 8, none⟩ = some (.int .i64 rack) := by rw [hw0]; go_simp
  have q0 := After.cell c0
  have q1 := After.cell c1
  have q2 := After.cell c2
  have q3 := After.cell c3
  have q4 := After.cell c4
  have q5 := After.cell c5
  have q6 := After.cell c6
  have q7 := After.cell c7
  have q8 := After.cell c8
  haveI := After.ne w0
  have HW := hid hw0
  rw [← hw0] at b0
  clear hw0 c0 c1 c2 c3 c4 c5 c6 c7 c8
  go_enter Try.func17, Try.ntmps17
  go_wp2_with fail
  rw [← HW.out]
  cases t with
  | true =>
    refine wp_region_after (by kernel_rfl) (by kernel_rfl) ?_
    repeat (go_big_quiet_step ((first | (go_at_call 36; refine Calls.after_same (hW _)) | (go_at_call 39; refine Calls.after_of (hK _)) | (go_at_call 61; refine Calls.after_of (hO _)))))
    refine wpQuiet_nil ?_
    rintro _ ⟨p, rfl⟩
    go_wp2_with fail
    go_ret
    exact ⟨rfl, on b0 p.h⟩
  | false =>
    refine wp_region_after (by kernel_rfl) (by kernel_rfl) ?_
    repeat (go_big_quiet_step ((first | (go_at_call 36; refine Calls.after_same (hW _)) | (go_at_call 39; refine Calls.after_of (hK _)) | (go_at_call 61; refine Calls.after_of (hO _)))))
    refine wpQuiet_nil ?_
    rintro _ ⟨p, rfl⟩
    go_wp2_with fail
    go_ret
    exact ⟨rfl, on b0 p.h⟩

theorem checkChange_5 (o : Osd) (w : World) : Calls Try.prog 17 #[vC ⟨5, o⟩] w fun e w' => e = .returned (.int .i64 (errB (idB o))) ∧ Below w.heap.size w w' := by
  have hW := fun W => within_any 5 1 6 W
  rw [show wi 5 1 6 = true from rfl] at hW
  have hK := fun W => kinds_any W
  have hI : ∀ W : World, (Instr.index 70 (.agg kindsV) (.int .i64 5)).run Try.prog W = .ok (.agg #[fn 61, fn 64]) W := fun _ => by kernel_rfl
  have hF : ∀ W : World, (Instr.field 69 (.agg #[fn 61, fn 64]) 0).run Try.prog W = .ok (fn 61) W := fun _ => by kernel_rfl
  unfold kindsV fn at hK hI
  unfold fn at hF
  have hO := fun W => idMay_any o W
  generalize idB o = t at *
  obtain ⟨i, up, inn, wt, life, boot, host, rack⟩ := o
  unfold vC
  unfold vO at hO
  dsimp only at hO ⊢
  have b0 := al w (.cells #[.int .i64 5, .int .i64 i, .bool up, .bool inn, .int .i64 wt, .int .i64 life, .int .i64 boot, .int .i64 host, .int .i64 rack] 30)
  obtain ⟨w0, hw0⟩ : ∃ w0, w0 = w.alloc (.cells #[.int .i64 5, .int .i64 i, .bool up, .bool inn, .int .i64 wt, .int .i64 life, .int .i64 boot, .int .i64 host, .int .i64 rack] 30) := ⟨_, rfl⟩
  have c0 : w0.cell? ⟨w.heap.size, 0, none⟩ = some (.int .i64 5) := by rw [hw0]; go_simp
  have c1 : w0.cell? ⟨w.heap.size, 1, none⟩ = some (.int .i64 i) := by rw [hw0]; go_simp
  have c2 : w0.cell? ⟨w.heap.size, 2, none⟩ = some (.bool up) := by rw [hw0]; go_simp
  have c3 : w0.cell? ⟨w.heap.size, 3, none⟩ = some (.bool inn) := by rw [hw0]; go_simp
  have c4 : w0.cell? ⟨w.heap.size, 4, none⟩ = some (.int .i64 wt) := by rw [hw0]; go_simp
  have c5 : w0.cell? ⟨w.heap.size, 5, none⟩ = some (.int .i64 life) := by rw [hw0]; go_simp
  have c6 : w0.cell? ⟨w.heap.size, 6, none⟩ = some (.int .i64 boot) := by rw [hw0]; go_simp
  have c7 : w0.cell? ⟨w.heap.size, 7, none⟩ = some (.int .i64 host) := by rw [hw0]; go_simp
  have c8 : w0.cell? ⟨w.heap.size, 8, none⟩ = some (.int .i64 rack) := by rw [hw0]; go_simp
  have q0 := After.cell c0
  have q1 := After.cell c1
  have q2 := After.cell c2
  have q3 := After.cell c3
  have q4 := After.cell c4
  have q5 := After.cell c5
  have q6 := After.cell c6
  have q7 := After.cell c7
  have q8 := After.cell c8
  haveI := After.ne w0
  have HW := hid hw0
  rw [← hw0] at b0
  clear hw0 c0 c1 c2 c3 c4 c5 c6 c7 c8
  go_enter Try.func17, Try.ntmps17
  go_wp2_with fail
  rw [← HW.out]
  cases t with
  | true =>
    refine wp_region_after (by kernel_rfl) (by kernel_rfl) ?_
    repeat (go_big_quiet_step ((first | (go_at_call 36; refine Calls.after_same (hW _)) | (go_at_call 39; refine Calls.after_of (hK _)) | (go_at_call 61; refine Calls.after_of (hO _)))))
    refine wpQuiet_nil ?_
    rintro _ ⟨p, rfl⟩
    go_wp2_with fail
    go_ret
    exact ⟨rfl, on b0 p.h⟩
  | false =>
    refine wp_region_after (by kernel_rfl) (by kernel_rfl) ?_
    repeat (go_big_quiet_step ((first | (go_at_call 36; refine Calls.after_same (hW _)) | (go_at_call 39; refine Calls.after_of (hK _)) | (go_at_call 61; refine Calls.after_of (hO _)))))
    refine wpQuiet_nil ?_
    rintro _ ⟨p, rfl⟩
    go_wp2_with fail
    go_ret
    exact ⟨rfl, on b0 p.h⟩

theorem checkChange_6 (o : Osd) (w : World) : Calls Try.prog 17 #[vC ⟨6, o⟩] w fun e w' => e = .returned (.int .i64 (errB (wtB o))) ∧ Below w.heap.size w w' := by
  have hW := fun W => within_any 6 1 6 W
  rw [show wi 6 1 6 = true from rfl] at hW
  have hK := fun W => kinds_any W
  have hI : ∀ W : World, (Instr.index 70 (.agg kindsV) (.int .i64 6)).run Try.prog W = .ok (.agg #[fn 65, fn 66]) W := fun _ => by kernel_rfl
  have hF : ∀ W : World, (Instr.field 69 (.agg #[fn 65, fn 66]) 0).run Try.prog W = .ok (fn 65) W := fun _ => by kernel_rfl
  unfold kindsV fn at hK hI
  unfold fn at hF
  have hO := fun W => weightMay_any o W
  generalize wtB o = t at *
  obtain ⟨i, up, inn, wt, life, boot, host, rack⟩ := o
  unfold vC
  unfold vO at hO
  dsimp only at hO ⊢
  have b0 := al w (.cells #[.int .i64 6, .int .i64 i, .bool up, .bool inn, .int .i64 wt, .int .i64 life, .int .i64 boot, .int .i64 host, .int .i64 rack] 30)
  obtain ⟨w0, hw0⟩ : ∃ w0, w0 = w.alloc (.cells #[.int .i64 6, .int .i64 i, .bool up, .bool inn, .int .i64 wt, .int .i64 life, .int .i64 boot, .int .i64 host, .int .i64 rack] 30) := ⟨_, rfl⟩
  have c0 : w0.cell? ⟨w.heap.size, 0, none⟩ = some (.int .i64 6) := by rw [hw0]; go_simp
  have c1 : w0.cell? ⟨w.heap.size, 1, none⟩ = some (.int .i64 i) := by rw [hw0]; go_simp
  have c2 : w0.cell? ⟨w.heap.size, 2, none⟩ = some (.bool up) := by rw [hw0]; go_simp
  have c3 : w0.cell? ⟨w.heap.size, 3, none⟩ = some (.bool inn) := by rw [hw0]; go_simp
  have c4 : w0.cell? ⟨w.heap.size, 4, none⟩ = some (.int .i64 wt) := by rw [hw0]; go_simp
  have c5 : w0.cell? ⟨w.heap.size, 5, none⟩ = some (.int .i64 life) := by rw [hw0]; go_simp
  have c6 : w0.cell? ⟨w.heap.size, 6, none⟩ = some (.int .i64 boot) := by rw [hw0]; go_simp
  have c7 : w0.cell? ⟨w.heap.size, 7, none⟩ = some (.int .i64 host) := by rw [hw0]; go_simp
  have c8 : w0.cell? ⟨w.heap.size, 8, none⟩ = some (.int .i64 rack) := by rw [hw0]; go_simp
  have q0 := After.cell c0
  have q1 := After.cell c1
  have q2 := After.cell c2
  have q3 := After.cell c3
  have q4 := After.cell c4
  have q5 := After.cell c5
  have q6 := After.cell c6
  have q7 := After.cell c7
  have q8 := After.cell c8
  haveI := After.ne w0
  have HW := hid hw0
  rw [← hw0] at b0
  clear hw0 c0 c1 c2 c3 c4 c5 c6 c7 c8
  go_enter Try.func17, Try.ntmps17
  go_wp2_with fail
  rw [← HW.out]
  cases t with
  | true =>
    refine wp_region_after (by kernel_rfl) (by kernel_rfl) ?_
    repeat (go_big_quiet_step ((first | (go_at_call 36; refine Calls.after_same (hW _)) | (go_at_call 39; refine Calls.after_of (hK _)) | (go_at_call 65; refine Calls.after_of (hO _)))))
    refine wpQuiet_nil ?_
    rintro _ ⟨p, rfl⟩
    go_wp2_with fail
    go_ret
    exact ⟨rfl, on b0 p.h⟩
  | false =>
    refine wp_region_after (by kernel_rfl) (by kernel_rfl) ?_
    repeat (go_big_quiet_step ((first | (go_at_call 36; refine Calls.after_same (hW _)) | (go_at_call 39; refine Calls.after_of (hK _)) | (go_at_call 65; refine Calls.after_of (hO _)))))
    refine wpQuiet_nil ?_
    rintro _ ⟨p, rfl⟩
    go_wp2_with fail
    go_ret
    exact ⟨rfl, on b0 p.h⟩

theorem checkChange_any (c : Ch) (w : World) : Calls Try.prog 17 #[vC c] w fun e w' => e = .returned (.int .i64 (errB (mayC c))) ∧ Below w.heap.size w w' := by
  obtain ⟨k, o⟩ := c
  cases h : wi k 1 6 with
  | false =>
    unfold mayC
    dsimp only
    rw [h]
    exact checkChange_no k o h w
  | true =>
    unfold mayC
    dsimp only
    rw [h, Bool.true_and]
    rcases kind_cases h with rfl | rfl | rfl | rfl | rfl | rfl
    · exact checkChange_1 o w
    · exact checkChange_2 o w
    · exact checkChange_3 o w
    · exact checkChange_4 o w
    · exact checkChange_5 o w
    · exact checkChange_6 o w

end Go.Proofs.Ytnddhlkdemibgaa.At
