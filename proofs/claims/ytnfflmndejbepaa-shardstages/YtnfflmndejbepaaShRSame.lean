/-
  The document's SameShard and Same.
  Conditions: what they are handed lies in memory.
-/
import Derived.Test.YtnfflmndejbepaaJMxOrders
import Derived.Test.YtnfflmndejbepaaShSame
namespace Go.Proofs.Ytnfflmndejbepaa.Sh
set_option linter.unusedSectionVars false
variable [Inhabited DZ]
open Go.RowKit By Fl
set_option linter.unusedVariables false
set_option linter.unusedSimpArgs false
set_option maxRecDepth 100000

theorem take_map {α β : Type} {f : α → β} {L M : List α} {k : Nat} {a b : α} (ha : L[k]? = some a) (hb : M[k]? = some b) (h : (L.take k).map f = (M.take k).map f) (e : f a = f b) : (L.take (k + 1)).map f = (M.take (k + 1)).map f := by
  rw [List.take_add_one, List.take_add_one, ha, hb]
  simp only [Option.toList_some, List.map_append, List.map_cons, List.map_nil, h, e]

theorem take_all {α β : Type} {f : α → β} {L M : List α} {n : Nat} (ha : L.length = n) (hb : M.length = n) (h : (L.take n).map f = (M.take n).map f) : L.map f = M.map f := by
  rwa [List.take_of_length_le (by omega), List.take_of_length_le (by omega)] at h

/- The two shards' lists, in their boxes. -/
structure Two2 (w0 : World) (p : Nat) (a b : SV) (W : World) : Prop where
  bel : Below w0.heap.size w0 W
  a2 : W.cell? ⟨p, 2, none⟩ = some (.slice a.x1 a.n1 a.c1)
  a3 : W.cell? ⟨p, 3, none⟩ = some (.slice a.x2 a.n2 a.c2)
  a4 : W.cell? ⟨p, 4, none⟩ = some (.slice a.x3 a.n3 a.c3)
  b2 : W.cell? ⟨p + 1, 2, none⟩ = some (.slice b.x1 b.n1 b.c1)
  b3 : W.cell? ⟨p + 1, 3, none⟩ = some (.slice b.x2 b.n2 b.c2)
  b4 : W.cell? ⟨p + 1, 4, none⟩ = some (.slice b.x3 b.n3 b.c3)

theorem Two2.below {w0 W W' : World} {p : Nat} {a b : SV} (h : Two2 w0 p a b W) (k : Below W.heap.size W W') : Two2 w0 p a b W' :=
  ⟨on h.bel k, keep k h.a2, keep k h.a3, keep k h.a4, keep k h.b2, keep k h.b3, keep k h.b4⟩

theorem Two2.new (w : World) (a b : SV) : Two2 ((w.alloc (.cells (SCells a) 26)).alloc (.cells (SCells b) 26)) w.heap.size a b ((w.alloc (.cells (SCells a) 26)).alloc (.cells (SCells b) 26)) := by
  refine ⟨Below.refl _ _, ?_, ?_, ?_, ?_, ?_, ?_⟩ <;> unfold SCells <;> go_simp

set_option maxHeartbeats 12800000 in
theorem rsameShard_any {w : World} {F G : Nat → Prop} {a b : SV} (ha : SAt w F a) (hb : SAt w G b) : Calls Try.prog 18 #[vS a, vS b] w fun e w' => e = .returned (.bool (bz (pS a = pS b))) ∧ Below w.heap.size w w' := by
  obtain ⟨t1, h1⟩ : ∃ t, (a.pl != b.pl) = t := ⟨_, rfl⟩
  obtain ⟨t2, h2⟩ : ∃ t, (a.si != b.si) = t := ⟨_, rfl⟩
  have HF0 : Hid ((t1 = true ∨ t2 = true) → bz (pS a = pS b) = false) := fun h => bz_false fun e => by
    unfold pS at e
    injection e with e1 e2 _ _ _
    rw [← h1, ← h2, e1, e2] at h
    simp at h
  have HF1 : Hid (a.I.map pI ≠ b.I.map pI → bz (pS a = pS b) = false) := fun h => bz_false fun e => by
    unfold pS at e
    injection e with _ _ e _ _
    exact h e
  have HF2 : Hid (a.E.map id ≠ b.E.map id → bz (pS a = pS b) = false) := fun h => bz_false fun e => by
    unfold pS at e
    injection e with _ _ _ e _
    exact h (by rw [e])
  have HF3 : Hid (a.U.map pU ≠ b.U.map pU → bz (pS a = pS b) = false) := fun h => bz_false fun e => by
    unfold pS at e
    injection e with _ _ _ _ e
    exact h e
  have HTr : Hid (t1 = false → t2 = false → a.I.map pI = b.I.map pI → a.E.map id = b.E.map id → a.U.map pU = b.U.map pU → bz (pS a = pS b) = true) := fun e1 e2 e3 e4 e5 => bz_true (by
    rw [← h1] at e1
    rw [← h2] at e2
    simp at e1 e2 e4
    unfold pS
    rw [e1, e2, e3, e4, e5])
  generalize bz (pS a = pS b) = R at *
  obtain ⟨w0, hw0⟩ : ∃ w0, w0 = (w.alloc (.cells (SCells a) 26)).alloc (.cells (SCells b) 26) := ⟨_, rfl⟩
  have bb : Below w.heap.size w w0 := by rw [hw0]; exact on (al _ _) (al _ _)
  have HZ : Hid (Two2 w0 w.heap.size a b w0) := hid (by rw [hw0]; exact Two2.new w a b)
  have HA := hid (ha.below bb)
  have HB := hid (hb.below bb)
  have HBB := hid bb
  have hL : Hid ((a.I.length = a.n1 ∧ b.I.length = b.n1) ∧ (a.E.length = a.n2 ∧ b.E.length = b.n2) ∧ (a.U.length = a.n3 ∧ b.U.length = b.n3)) := ⟨⟨ha.i.len, hb.i.len⟩, ⟨ha.e.len, hb.e.len⟩, ⟨ha.u.len, hb.u.len⟩⟩
  have sm1 := ha.i.small
  have sm2 := ha.e.small
  have sm3 := ha.u.small
  clear ha hb bb
  obtain ⟨pl, si, x1, n1, c1, I, x2, n2, c2, E, x3, n3, c3, U⟩ := a
  obtain ⟨pl', si', y1, m1, d1, I', y2, m2, d2, E', y3, m3, d3, U'⟩ := b
  unfold SCells at hw0
  unfold vS
  dsimp only at *
  cases t1
  rotate_left
  · go_enter Try.func18, Try.ntmps18
    go_wp2_with fail
    go_ret
    exact ⟨by rw [HF0.out (by simp)]; rfl, by have := HBB.out; rw [hw0] at this; exact this⟩
  cases t2
  rotate_left
  · go_enter Try.func18, Try.ntmps18
    go_wp2_with fail
    go_ret
    exact ⟨by rw [HF0.out (by simp)]; rfl, by have := HBB.out; rw [hw0] at this; exact this⟩
  by_cases e1 : n1 = m1
  rotate_left
  · have q1 : ((n1 : Int) != (m1 : Int)) = true := by simp; omega
    go_enter Try.func18, Try.ntmps18
    go_wp2_with fail
    go_ret
    exact ⟨by rw [HF1.out fun e => e1 (by have := congrArg List.length e; simp at this; have := hL.out.1; omega)]; rfl, by have := HBB.out; rw [hw0] at this; exact this⟩
  subst e1
  by_cases e2 : n2 = m2
  rotate_left
  · have q2 : ((n2 : Int) != (m2 : Int)) = true := by simp; omega
    go_enter Try.func18, Try.ntmps18
    go_wp2_with fail
    go_ret
    exact ⟨by rw [HF2.out fun e => e2 (by have := congrArg List.length e; simp at this; have := hL.out.2.1; omega)]; rfl, by have := HBB.out; rw [hw0] at this; exact this⟩
  subst e2
  by_cases e3 : n3 = m3
  rotate_left
  · have q3 : ((n3 : Int) != (m3 : Int)) = true := by simp; omega
    go_enter Try.func18, Try.ntmps18
    go_wp2_with fail
    go_ret
    exact ⟨by rw [HF3.out fun e => e3 (by have := congrArg List.length e; simp at this; have := hL.out.2.2; omega)]; rfl, by have := HBB.out; rw [hw0] at this; exact this⟩
  subst e3
  have HW := hid hw0
  clear hw0
  go_enter Try.func18, Try.ntmps18
  go_wp2_with fail
  go_loopw [5] (fun i wr => ∃ k : Nat, k ≤ n1 ∧ i = .int .i64 k ∧ Hid (Two2 w0 w.heap.size ⟨pl, si, x1, n1, c1, I, x2, n2, c2, E, x3, n3, c3, U⟩ ⟨pl', si', y1, n1, d1, I', y2, n2, d2, E', y3, n3, d3, U'⟩ wr ∧ (I.take k).map pI = (I'.take k).map pI)) (fun i _ => n1 - (intOf i).toNat)
  case atStart => exact ⟨0, by omega, rfl, by rw [← HW.out]; exact HZ.out, by simp⟩
  case round =>
    obtain ⟨k, hk, rfl, HR⟩ := hrel
    have pa := HR.out.1.a2
    have pb := HR.out.1.b2
    dsimp only at pa pb
    by_cases hlt : k < n1
    · have hkn : (k : Int) < (n1 : Int) := by omega
      obtain ⟨ea, ha1, hm1⟩ := Lis.some HA.out.i hlt
      obtain ⟨eb, ha2, hm2⟩ := Lis.some HB.out.i hlt
      have A1 := hid (HA.out.i.each ea hm1)
      have A2 := hid (HB.out.i.each eb hm2)
      have ra := HA.out.i.row
      have rb := HB.out.i.row
      dsimp only at ra rb
      rcases ra with h0 | ⟨bl1, o1, rfl, hb1, _, hc1⟩
      · omega
      rcases rb with h0 | ⟨bl2, o2, rfl, hb2, _, hc2⟩
      · omega
      obtain ⟨k0, k1, k2, k3⟩ := i_at hc1 ha1
      obtain ⟨l0, l1, l2, l3⟩ := i_at hc2 ha2
      have HY := hid (And.intro ha1 ha2)
      clear hc1 hc2 ha1 ha2 hm1 hm2 hb1 hb2
      have hbw := HR.out.1.bel
      have pa' := After.cell pa
      have pb' := After.cell pb
      have r0 := After.cell (keep hbw k0)
      have r1 := After.cell (keep hbw k1)
      have r2 := After.cell (keep hbw k2)
      have r3 := After.cell (keep hbw k3)
      have s0 := After.cell (keep hbw l0)
      have s1 := After.cell (keep hbw l1)
      have s2 := After.cell (keep hbw l2)
      have s3 := After.cell (keep hbw l3)
      have hC := fun (p : After wr) => rsameChunk_any (CAt.below A1.out.2 (on hbw p.h)) (CAt.below A2.out.2 (on hbw p.h))
      obtain ⟨u1, hu1⟩ : ∃ t, (ea.nm.toList == eb.nm.toList) = t := ⟨_, rfl⟩
      obtain ⟨u2, hu2⟩ : ∃ t, t = bz (pC ea.ch = pC eb.ch) := ⟨_, rfl⟩
      rw [← hu2] at hC
      have HE : Hid ((u1 = true → u2 = true → pI ea = pI eb) ∧ ((u1 = false ∨ u2 = false) → pI ea ≠ pI eb)) := by
        refine hid ⟨fun q1 q2 => ?_, fun q e => ?_⟩
        · rw [← hu1] at q1
          rw [q2] at hu2
          have := bz_of hu2.symm
          have q3 : ea.nm = eb.nm := toList_inj (by simpa using q1)
          unfold pI
          rw [this, q3]
        · unfold pI at e
          injection e with e1 e2
          rcases q with q | q
          · rw [← hu1, e1] at q
            simp at q
          · rw [q] at hu2
            exact bz_not hu2.symm e2
      clear hu2
      obtain ⟨nm, sz, x, n, c, dat, sum⟩ := ea
      obtain ⟨nm', sz', x', n', c', dat', sum'⟩ := eb
      unfold vC at hC
      dsimp only at r0 r1 r2 r3 s0 s1 s2 s3 hC hu1
      clear k0 k1 k2 k3 l0 l1 l2 l3 hbw
      haveI := After.ne wr
      cases u1 with
      | false =>
        have hu2 : (nm.toList != nm'.toList) = true := by unfold bne; rw [hu1]; rfl
        go_wp2_with fail
        refine wp_region_after (by kernel_rfl) (by kernel_rfl) ?_
        repeat (go_big_quiet_step (fail))
        refine wpQuiet_nil ?_
        rintro _ ⟨q, rfl⟩
        go_wp2_with fail
        go_ret
        exact ⟨by rw [HF1.out fun h => HE.out.2 (by simp) (map_at HY.out.1 HY.out.2 h)]; rfl, on HBB.out (on HR.out.1.bel q.h)⟩
      | true =>
        have hu2 : (nm.toList != nm'.toList) = false := by unfold bne; rw [hu1]; rfl
        cases u2 with
        | true =>
          go_wp2_with fail
          refine wp_region_after (by kernel_rfl) (by kernel_rfl) ?_
          repeat (go_big_quiet_step ((go_at_call 19; refine Calls.after_of (hC _))))
          refine wpQuiet_nil ?_
          rintro _ ⟨q, rfl⟩
          go_wp2_with fail
          go_roundw
          case rel => exact ⟨k + 1, by omega, by go_num, HR.out.1.below q.h, take_map HY.out.1 HY.out.2 HR.out.2 (HE.out.1 (by simp) (by simp))⟩
          case measure => simp [intOf]; omega
        | false =>
          go_wp2_with fail
          refine wp_region_after (by kernel_rfl) (by kernel_rfl) ?_
          repeat (go_big_quiet_step ((go_at_call 19; refine Calls.after_of (hC _))))
          refine wpQuiet_nil ?_
          rintro _ ⟨q, rfl⟩
          go_wp2_with fail
          go_ret
          exact ⟨by rw [HF1.out fun h => HE.out.2 (by simp) (map_at HY.out.1 HY.out.2 h)]; rfl, on HBB.out (on HR.out.1.bel q.h)⟩
    · have hk2 : n1 = k := by omega
      subst hk2
      have HI1 : Hid (I.map pI = I'.map pI) := hid (take_all hL.out.1.1 hL.out.1.2 HR.out.2)
      have HR1 : Hid (Two2 w0 w.heap.size ⟨pl, si, x1, n1, c1, I, x2, n2, c2, E, x3, n3, c3, U⟩ ⟨pl', si', y1, n1, d1, I', y2, n2, d2, E', y3, n3, d3, U'⟩ wr) := hid HR.out.1
      clear hlt
      go_wp2_with fail
      clear pa pb HR
      clear hk
      go_loopw [6] (fun i wr => ∃ k : Nat, k ≤ n2 ∧ i = .int .i64 k ∧ Hid (Two2 w0 w.heap.size ⟨pl, si, x1, n1, c1, I, x2, n2, c2, E, x3, n3, c3, U⟩ ⟨pl', si', y1, n1, d1, I', y2, n2, d2, E', y3, n3, d3, U'⟩ wr ∧ (E.take k).map id = (E'.take k).map id)) (fun i _ => n2 - (intOf i).toNat)
      case atStart => exact ⟨0, by omega, rfl, HR1.out, by simp⟩
      case round =>
        clear HR1
        obtain ⟨k, hk, rfl, HR⟩ := hrel
        have pa := HR.out.1.a3
        have pb := HR.out.1.b3
        dsimp only at pa pb
        by_cases hlt : k < n2
        · have hkn : (k : Int) < (n2 : Int) := by omega
          obtain ⟨ea, ha1, hm1⟩ := Lis.some HA.out.e hlt
          obtain ⟨eb, ha2, hm2⟩ := Lis.some HB.out.e hlt
          have ra := HA.out.e.row
          have rb := HB.out.e.row
          dsimp only at ra rb
          rcases ra with h0 | ⟨bl1, o1, rfl, hb1, _, hc1⟩
          · omega
          rcases rb with h0 | ⟨bl2, o2, rfl, hb2, _, hc2⟩
          · omega
          obtain ⟨k0, k1, k2, k3, k4, k5, k6⟩ := e_at hc1 ha1
          obtain ⟨l0, l1, l2, l3, l4, l5, l6⟩ := e_at hc2 ha2
          have HY := hid (And.intro ha1 ha2)
          clear hc1 hc2 ha1 ha2 hm1 hm2 hb1 hb2
          have hbw := HR.out.1.bel
          have pa' := After.cell pa
          have pb' := After.cell pb
          have r0 := After.cell (keep hbw k0)
          have r1 := After.cell (keep hbw k1)
          have r2 := After.cell (keep hbw k2)
          have r3 := After.cell (keep hbw k3)
          have r4 := After.cell (keep hbw k4)
          have r5 := After.cell (keep hbw k5)
          have r6 := After.cell (keep hbw k6)
          have s0 := After.cell (keep hbw l0)
          have s1 := After.cell (keep hbw l1)
          have s2 := After.cell (keep hbw l2)
          have s3 := After.cell (keep hbw l3)
          have s4 := After.cell (keep hbw l4)
          have s5 := After.cell (keep hbw l5)
          have s6 := After.cell (keep hbw l6)
          have hq := neq_ent ea eb
          obtain ⟨t, ht⟩ : ∃ t, eqE ea eb = t := ⟨_, rfl⟩
          rw [ht] at hq
          have HE : Hid (t = true ↔ ea = eb) := hid (by rw [← ht]; exact eqE_is ea eb)
          obtain ⟨f0, f1, f2, f3, f4, f5, f6⟩ := ea
          obtain ⟨g0, g1, g2, g3, g4, g5, g6⟩ := eb
          unfold vE at hq
          dsimp only at r0 r1 r2 r3 r4 r5 r6 s0 s1 s2 s3 s4 s5 s6 hq
          clear k0 k1 k2 k3 k4 k5 k6 l0 l1 l2 l3 l4 l5 l6 hbw ht
          haveI := After.ne wr
          cases t with
          | true =>
            go_wp2_with fail
            refine wp_region_after (by kernel_rfl) (by kernel_rfl) ?_
            repeat (go_big_quiet_step (simp only [hq]))
            refine wpQuiet_nil ?_
            rintro _ ⟨q, rfl⟩
            go_wp2_with fail
            go_roundw
            case rel => exact ⟨k + 1, by omega, by go_num, HR.out.1.below q.h, take_map HY.out.1 HY.out.2 HR.out.2 (HE.out.1 (by trivial))⟩
            case measure => simp [intOf]; omega
          | false =>
            go_wp2_with fail
            refine wp_region_after (by kernel_rfl) (by kernel_rfl) ?_
            repeat (go_big_quiet_step (simp only [hq]))
            refine wpQuiet_nil ?_
            rintro _ ⟨q, rfl⟩
            go_wp2_with fail
            go_ret
            exact ⟨by rw [HF2.out fun h => by have := HE.out.2 (map_at HY.out.1 HY.out.2 h); cases this]; rfl, on HBB.out (on HR.out.1.bel q.h)⟩
        · have hk2 : n2 = k := by omega
          subst hk2
          have HI2 : Hid (E.map id = E'.map id) := hid (take_all hL.out.2.1.1 hL.out.2.1.2 HR.out.2)
          have HR2 : Hid (Two2 w0 w.heap.size ⟨pl, si, x1, n1, c1, I, x2, n2, c2, E, x3, n3, c3, U⟩ ⟨pl', si', y1, n1, d1, I', y2, n2, d2, E', y3, n3, d3, U'⟩ wr) := hid HR.out.1
          clear hlt
          go_wp2_with fail
          clear pa pb HR hk
          go_loopw [7] (fun i wr => ∃ k : Nat, k ≤ n3 ∧ i = .int .i64 k ∧ Hid (Two2 w0 w.heap.size ⟨pl, si, x1, n1, c1, I, x2, n2, c2, E, x3, n3, c3, U⟩ ⟨pl', si', y1, n1, d1, I', y2, n2, d2, E', y3, n3, d3, U'⟩ wr ∧ (U.take k).map pU = (U'.take k).map pU)) (fun i _ => n3 - (intOf i).toNat)
          case atStart => exact ⟨0, by omega, rfl, HR2.out, by simp⟩
          case round =>
            clear HR2
            obtain ⟨k, hk, rfl, HR⟩ := hrel
            have pa := HR.out.1.a4
            have pb := HR.out.1.b4
            dsimp only at pa pb
            by_cases hlt : k < n3
            · have hkn : (k : Int) < (n3 : Int) := by omega
              obtain ⟨ea, ha1, hm1⟩ := Lis.some HA.out.u hlt
              obtain ⟨eb, ha2, hm2⟩ := Lis.some HB.out.u hlt
              have A1 := hid (HA.out.u.each ea hm1)
              have A2 := hid (HB.out.u.each eb hm2)
              have ra := HA.out.u.row
              have rb := HB.out.u.row
              dsimp only at ra rb
              rcases ra with h0 | ⟨bl1, o1, rfl, hb1, _, hc1⟩
              · omega
              rcases rb with h0 | ⟨bl2, o2, rfl, hb2, _, hc2⟩
              · omega
              obtain ⟨k0, k1, k2, k3, k4, k5⟩ := u_at hc1 ha1
              obtain ⟨l0, l1, l2, l3, l4, l5⟩ := u_at hc2 ha2
              have HY := hid (And.intro ha1 ha2)
              clear hc1 hc2 ha1 ha2 hm1 hm2 hb1 hb2
              have hbw := HR.out.1.bel
              replace k0 := keep hbw k0
              replace k1 := keep hbw k1
              replace k2 := keep hbw k2
              replace k3 := keep hbw k3
              replace k4 := keep hbw k4
              replace k5 := keep hbw k5
              replace l0 := keep hbw l0
              replace l1 := keep hbw l1
              replace l2 := keep hbw l2
              replace l3 := keep hbw l3
              replace l4 := keep hbw l4
              replace l5 := keep hbw l5
              obtain ⟨v0, hv0⟩ : ∃ t, (ea.seq == eb.seq) = t := ⟨_, rfl⟩
              obtain ⟨v1, hv1⟩ : ∃ t, (ea.nm.toList == eb.nm.toList) = t := ⟨_, rfl⟩
              obtain ⟨v2, hv2⟩ : ∃ t, (ea.has == eb.has) = t := ⟨_, rfl⟩
              obtain ⟨v3, hv3⟩ : ∃ t, t = bz (pC ea.was = pC eb.was) := ⟨_, rfl⟩
              have hC := fun W (hW : Below wr.heap.size wr W) => rsameChunk_any (CAt.below A1.out.2 (on hbw hW)) (CAt.below A2.out.2 (on hbw hW))
              rw [← hv3] at hC
              have HE : Hid ((v0 && v1 && v2 && v3) = true ↔ pU ea = pU eb) := by
                refine hid ?_
                unfold pU
                rw [← hv0, ← hv1, ← hv2, hv3, str_eq]
                simp only [Bool.and_eq_true, beq_iff_eq, decide_eq_true_eq, Und.mk.injEq, and_assoc]
                exact ⟨fun ⟨a, b, c, d⟩ => ⟨a, b, c, bz_of d⟩, fun ⟨a, b, c, d⟩ => ⟨a, b, c, bz_true d⟩⟩
              have hw0 : (ea.seq != eb.seq) = !v0 := by unfold bne; rw [hv0]
              have hw1 : (ea.nm.toList != eb.nm.toList) = !v1 := by unfold bne; rw [hv1]
              have hw2 : (ea.has != eb.has) = !v2 := by unfold bne; rw [hv2]
              clear hv3
              obtain ⟨sq, nm, ha, sz, x, n, c, dat, sum⟩ := ea
              obtain ⟨sq', nm', ha', sz', x', n', c', dat', sum'⟩ := eb
              unfold vC at hC
              dsimp only at k0 k1 k2 k3 k4 k5 l0 l1 l2 l3 l4 l5 hC hv0 hv1 hv2 hw0 hw1 hw2
              have HCC := hid hC
              have HK := hid (And.intro k0 (And.intro k1 (And.intro k2 (And.intro k3 (And.intro k4 (And.intro k5 (And.intro l0 (And.intro l1 (And.intro l2 (And.intro l3 (And.intro l4 (And.intro l5 (And.intro pa pb)))))))))))))
              have HV := hid (And.intro hv0 (And.intro hv1 (And.intro hv2 (And.intro hw0 (And.intro hw1 hw2)))))
              clear hC hbw k0 k1 k2 k3 k4 k5 l0 l1 l2 l3 l4 l5 hv0 hv1 hv2 hw0 hw1 hw2
              go_wp2_with fail
              clear pa pb
              refine wp_region_held_drew (S := fun v => v.cell? ⟨bl1, o1 + k * 6, none⟩ = some (.int .i64 sq) ∧ v.cell? ⟨bl1, o1 + k * 6 + 1, none⟩ = some (.string nm) ∧ v.cell? ⟨bl1, o1 + k * 6 + 2, none⟩ = some (.bool ha) ∧ v.cell? ⟨bl1, o1 + k * 6 + 3, none⟩ = some (.int .i64 sz) ∧ v.cell? ⟨bl1, o1 + k * 6 + 4, none⟩ = some (.slice x n c) ∧ v.cell? ⟨bl1, o1 + k * 6 + 5, none⟩ = some (.int .u32 sum) ∧
                v.cell? ⟨bl2, o2 + k * 6, none⟩ = some (.int .i64 sq') ∧ v.cell? ⟨bl2, o2 + k * 6 + 1, none⟩ = some (.string nm') ∧ v.cell? ⟨bl2, o2 + k * 6 + 2, none⟩ = some (.bool ha') ∧ v.cell? ⟨bl2, o2 + k * 6 + 3, none⟩ = some (.int .i64 sz') ∧ v.cell? ⟨bl2, o2 + k * 6 + 4, none⟩ = some (.slice x' n' c') ∧ v.cell? ⟨bl2, o2 + k * 6 + 5, none⟩ = some (.int .u32 sum') ∧
                v.cell? ⟨w.heap.size, 4, none⟩ = some (.slice (some ⟨bl1, o1, none⟩) n3 c3) ∧ v.cell? ⟨w.heap.size + 1, 4, none⟩ = some (.slice (some ⟨bl2, o2, none⟩) n3 d3)) (by kernel_rfl) HK.out (fun hHeld => ?_)
              refine By.hk 0 ?_
              refine By.hk 1 ?_
              refine By.hk 2 ?_
              refine By.hk 3 ?_
              refine By.hk 4 ?_
              refine By.hk 5 ?_
              refine By.hk 6 ?_
              refine By.hk 7 ?_
              refine By.hk 8 ?_
              refine By.hk 9 ?_
              have KS : Hid (∀ W, Below wr.heap.size wr W → _) := hid (fun W hW => (⟨keep hW HK.out.1, keep hW HK.out.2.1, keep hW HK.out.2.2.1, keep hW HK.out.2.2.2.1, keep hW HK.out.2.2.2.2.1, keep hW HK.out.2.2.2.2.2.1, keep hW HK.out.2.2.2.2.2.2.1, keep hW HK.out.2.2.2.2.2.2.2.1, keep hW HK.out.2.2.2.2.2.2.2.2.1, keep hW HK.out.2.2.2.2.2.2.2.2.2.1, keep hW HK.out.2.2.2.2.2.2.2.2.2.2.1, keep hW HK.out.2.2.2.2.2.2.2.2.2.2.2.1, keep hW HK.out.2.2.2.2.2.2.2.2.2.2.2.2.1, keep hW HK.out.2.2.2.2.2.2.2.2.2.2.2.2.2⟩ : _ ∧ _ ∧ _ ∧ _ ∧ _ ∧ _ ∧ _ ∧ _ ∧ _ ∧ _ ∧ _ ∧ _ ∧ _ ∧ _))
              have HDr : Hid (Below wr.heap.size wr wr.drew) := hid (Below.refl _ _).drew
              refine wpAnyH_ready (rs := [10, 11]) (by kernel_rfl) (by simp) ?_
              refine AllReadyH.cons rfl (fun K hK => ?_) (AllReadyH.cons rfl (fun K hK => ?_) AllReadyH.nil)
              · go_simp
                refine hK.out _ _ (KS.out _ (by first | exact al _ _ | exact (al _ _).drew | exact on (al _ _) (al _ _) | exact (on (al _ _) (al _ _)).drew)) (fun hHeld => ?_)
                clear hK K
                refine wpAnyH_ready (rs := [11]) (by kernel_rfl) (by simp) ?_
                refine AllReadyH.cons rfl (fun K hK => ?_) AllReadyH.nil
                go_simp
                refine hK.out _ _ (KS.out _ (by first | exact al _ _ | exact (al _ _).drew | exact on (al _ _) (al _ _) | exact (on (al _ _) (al _ _)).drew)) (fun hHeld => ?_)
                clear hK K
                refine wpAnyH_ready (rs := [12]) (by kernel_rfl) (by simp) ?_
                refine AllReadyH.cons rfl (fun K hK => ?_) AllReadyH.nil
                go_simp
                refine hK.out _ _ (KS.out _ (by first | exact al _ _ | exact (al _ _).drew | exact on (al _ _) (al _ _) | exact (on (al _ _) (al _ _)).drew)) (fun hHeld => ?_)
                clear hK K
                refine wpAnyH_ready (rs := [13]) (by kernel_rfl) (by simp) ?_
                refine AllReadyH.cons rfl (fun K hK => ?_) AllReadyH.nil
                go_simp
                refine hK.out _ _ (KS.out _ (by first | exact al _ _ | exact (al _ _).drew | exact on (al _ _) (al _ _) | exact (on (al _ _) (al _ _)).drew)) (fun hHeld => ?_)
                clear hK K
                refine wpAnyH_done (by kernel_rfl) ?_ _
                clear hHeld
                obtain ⟨hv0, hv1, hv2, hw0, hw1, hw2⟩ := HV.out
                clear HV KS HDr HK
                cases v0
                · simp only [Bool.not_false] at hw0
                  go_wp2_with fail
                  go_ret
                  exact ⟨by rw [HF3.out fun h => by have := HE.out.2 (map_at HY.out.1 HY.out.2 h); simp at this]; rfl, on HBB.out (on HR.out.1.bel (by first | exact on (al _ _) (al _ _) | exact (on (al _ _) (al _ _)).drew))⟩
                simp only [Bool.not_true] at hw0
                cases v1
                · simp only [Bool.not_false] at hw1
                  go_wp2_with fail
                  go_ret
                  exact ⟨by rw [HF3.out fun h => by have := HE.out.2 (map_at HY.out.1 HY.out.2 h); simp at this]; rfl, on HBB.out (on HR.out.1.bel (by first | exact on (al _ _) (al _ _) | exact (on (al _ _) (al _ _)).drew))⟩
                simp only [Bool.not_true] at hw1
                cases v2
                · simp only [Bool.not_false] at hw2
                  go_wp2_with fail
                  go_ret
                  exact ⟨by rw [HF3.out fun h => by have := HE.out.2 (map_at HY.out.1 HY.out.2 h); simp at this]; rfl, on HBB.out (on HR.out.1.bel (by first | exact on (al _ _) (al _ _) | exact (on (al _ _) (al _ _)).drew))⟩
                simp only [Bool.not_true] at hw2
                cases v3
                · go_wp2_with (go_at_call 19; refine (HCC.out _ (by first | exact on (al _ _) (al _ _) | exact (on (al _ _) (al _ _)).drew)).mono ?_; rintro e w2 ⟨rfl, hb2⟩)
                  go_ret
                  exact ⟨by rw [HF3.out fun h => by have := HE.out.2 (map_at HY.out.1 HY.out.2 h); simp at this]; rfl, on HBB.out (on HR.out.1.bel (on (by first | exact on (al _ _) (al _ _) | exact (on (al _ _) (al _ _)).drew) hb2))⟩
                go_wp2_with (go_at_call 19; refine (HCC.out _ (by first | exact on (al _ _) (al _ _) | exact (on (al _ _) (al _ _)).drew)).mono ?_; rintro e w2 ⟨rfl, hb2⟩)
                go_roundw
                case rel => exact ⟨k + 1, by omega, by go_num, (HR.out.1.below (by first | exact on (al _ _) (al _ _) | exact (on (al _ _) (al _ _)).drew)).below hb2, take_map HY.out.1 HY.out.2 HR.out.2 (HE.out.1 (by simp))⟩
                case measure => simp [intOf]; omega
              · go_simp
                refine hK.out _ _ (KS.out _ (by first | exact al _ _ | exact (al _ _).drew | exact on (al _ _) (al _ _) | exact (on (al _ _) (al _ _)).drew)) (fun hHeld => ?_)
                clear hK K
                refine wpAnyH_ready (rs := [10]) (by kernel_rfl) (by simp) ?_
                refine AllReadyH.cons rfl (fun K hK => ?_) AllReadyH.nil
                go_simp
                refine hK.out _ _ (KS.out _ (by first | exact al _ _ | exact (al _ _).drew | exact on (al _ _) (al _ _) | exact (on (al _ _) (al _ _)).drew)) (fun hHeld => ?_)
                clear hK K
                refine wpAnyH_ready (rs := [12]) (by kernel_rfl) (by simp) ?_
                refine AllReadyH.cons rfl (fun K hK => ?_) AllReadyH.nil
                go_simp
                refine hK.out _ _ (KS.out _ (by first | exact al _ _ | exact (al _ _).drew | exact on (al _ _) (al _ _) | exact (on (al _ _) (al _ _)).drew)) (fun hHeld => ?_)
                clear hK K
                refine wpAnyH_ready (rs := [13]) (by kernel_rfl) (by simp) ?_
                refine AllReadyH.cons rfl (fun K hK => ?_) AllReadyH.nil
                go_simp
                refine hK.out _ _ (KS.out _ (by first | exact al _ _ | exact (al _ _).drew | exact on (al _ _) (al _ _) | exact (on (al _ _) (al _ _)).drew)) (fun hHeld => ?_)
                clear hK K
                refine wpAnyH_done (by kernel_rfl) ?_ _
                clear hHeld
                obtain ⟨hv0, hv1, hv2, hw0, hw1, hw2⟩ := HV.out
                clear HV KS HDr HK
                cases v0
                · simp only [Bool.not_false] at hw0
                  go_wp2_with fail
                  go_ret
                  exact ⟨by rw [HF3.out fun h => by have := HE.out.2 (map_at HY.out.1 HY.out.2 h); simp at this]; rfl, on HBB.out (on HR.out.1.bel (by first | exact on (al _ _) (al _ _) | exact (on (al _ _) (al _ _)).drew))⟩
                simp only [Bool.not_true] at hw0
                cases v1
                · simp only [Bool.not_false] at hw1
                  go_wp2_with fail
                  go_ret
                  exact ⟨by rw [HF3.out fun h => by have := HE.out.2 (map_at HY.out.1 HY.out.2 h); simp at this]; rfl, on HBB.out (on HR.out.1.bel (by first | exact on (al _ _) (al _ _) | exact (on (al _ _) (al _ _)).drew))⟩
                simp only [Bool.not_true] at hw1
                cases v2
                · simp only [Bool.not_false] at hw2
                  go_wp2_with fail
                  go_ret
                  exact ⟨by rw [HF3.out fun h => by have := HE.out.2 (map_at HY.out.1 HY.out.2 h); simp at this]; rfl, on HBB.out (on HR.out.1.bel (by first | exact on (al _ _) (al _ _) | exact (on (al _ _) (al _ _)).drew))⟩
                simp only [Bool.not_true] at hw2
                cases v3
                · go_wp2_with (go_at_call 19; refine (HCC.out _ (by first | exact on (al _ _) (al _ _) | exact (on (al _ _) (al _ _)).drew)).mono ?_; rintro e w2 ⟨rfl, hb2⟩)
                  go_ret
                  exact ⟨by rw [HF3.out fun h => by have := HE.out.2 (map_at HY.out.1 HY.out.2 h); simp at this]; rfl, on HBB.out (on HR.out.1.bel (on (by first | exact on (al _ _) (al _ _) | exact (on (al _ _) (al _ _)).drew) hb2))⟩
                go_wp2_with (go_at_call 19; refine (HCC.out _ (by first | exact on (al _ _) (al _ _) | exact (on (al _ _) (al _ _)).drew)).mono ?_; rintro e w2 ⟨rfl, hb2⟩)
                go_roundw
                case rel => exact ⟨k + 1, by omega, by go_num, (HR.out.1.below (by first | exact on (al _ _) (al _ _) | exact (on (al _ _) (al _ _)).drew)).below hb2, take_map HY.out.1 HY.out.2 HR.out.2 (HE.out.1 (by simp))⟩
                case measure => simp [intOf]; omega
            · have hk2 : n3 = k := by omega
              subst hk2
              have hI3 : U.map pU = U'.map pU := take_all hL.out.2.2.1 hL.out.2.2.2 HR.out.2
              go_wp2_with fail
              go_ret
              exact ⟨by rw [HTr.out (by trivial) (by trivial) HI1.out HI2.out hI3]; rfl, on HBB.out HR.out.1.bel⟩

end Go.Proofs.Ytnfflmndejbepaa.Sh
