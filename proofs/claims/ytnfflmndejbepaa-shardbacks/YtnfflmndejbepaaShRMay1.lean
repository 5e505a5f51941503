/-
  The document's Shard.
  Conditions: the shard lies in memory.
-/
import Derived.Test.YtnfflmndejbepaaShMay3
import Derived.Test.YtnfflmndejbepaaShRSame
namespace Go.Proofs.Ytnfflmndejbepaa.Sh
set_option linter.unusedSectionVars false
variable [Inhabited DZ]
open Go.RowKit By Fl
set_option linter.unusedVariables false
set_option linter.unusedSimpArgs false
set_option maxRecDepth 100000

set_option maxHeartbeats 12800000 in
theorem rshard_any {w : World} {F : Nat → Prop} {v : SV} (h : SAt w F v) : Calls Try.prog 17 #[vS v] w fun e w' => e = .returned (.bool (bz (okS (pS v)))) ∧ Below w.heap.size w w' := by
  obtain ⟨w1, hw1⟩ : ∃ w1, w1 = w.alloc (.cells (SCells v) 26) := ⟨_, rfl⟩
  have bb : Below w.heap.size w w1 := by rw [hw1]; exact al _ _
  have hF : SFacts w1 w.heap.size v w1 := by rw [hw1]; exact SFacts.new w v
  obtain ⟨tS, hS⟩ : ∃ t, t = bz (pS v = pS zSV) := ⟨_, rfl⟩
  have hC0 : Calls Try.prog 18 #[vS v, vS zSV] w1 fun e w' => e = .returned (.bool tS) ∧ Below w1.heap.size w1 w' := by rw [hS]; exact rsameShard_any (h.below bb) (zSV_at w1 F)
  obtain ⟨R, hR⟩ : ∃ R, R = bz (okS (pS v)) := ⟨_, rfl⟩
  have HR1 : Hid (v.si = 0 → R = tS) := fun h0 => by rw [hR, hS]; exact bz_congr (okS_si0 (s := pS v) h0)
  have HO : Hid (v.si ≠ 0 → (R = true ↔ (1 ≤ v.si ∧ v.si ≤ 1048576) ∧ (0 ≤ v.pl ∧ v.pl ≤ 31) ∧ v.n3 ≤ v.n2 ∧ IOk (v.I.map pI) ∧ LOk v.E ∧ UOk (v.U.map pU) v.E)) := fun h0 => by
    have e1 := okS_si (s := pS v) h0
    have e2 := h.e.len
    have e3 := h.u.len
    rw [hR]
    constructor
    · intro k
      have := e1.1 (bz_of k)
      unfold pS at this
      rw [List.length_map, e2, e3] at this
      exact this
    · intro k
      refine bz_true (e1.2 ?_)
      unfold pS
      rw [List.length_map, e2, e3]
      exact k
  have HLen : Hid (v.I.length = v.n1 ∧ v.E.length = v.n2 ∧ v.U.length = v.n3) := ⟨h.i.len, h.e.len, h.u.len⟩
  rw [← hR]
  have HB := hid bb
  obtain ⟨z0, hz0⟩ : ∃ t, (v.si == 0) = t := ⟨_, rfl⟩
  have HZ : Hid (z0 = true ↔ v.si = 0) := hid (by rw [← hz0]; simp)
  obtain ⟨t1, h1⟩ : ∃ t, t = decide ((1 : Int) ≤ v.si ∧ v.si ≤ 1048576) := ⟨_, rfl⟩
  obtain ⟨t2, h2⟩ : ∃ t, t = decide ((0 : Int) ≤ v.pl ∧ v.pl ≤ 31) := ⟨_, rfl⟩
  have HC1 : Hid (∀ W, Calls Try.prog 44 #[.int .i64 v.si, .int .i64 1, .int .i64 1048576] W fun e w' => e = .returned (.bool t1) ∧ w' = W) := fun W => by rw [h1]; exact rwithin_any _ _ _ W
  have HC2 : Hid (∀ W, Calls Try.prog 44 #[.int .i64 v.pl, .int .i64 0, .int .i64 31] W fun e w' => e = .returned (.bool t2) ∧ w' = W) := fun W => by rw [h2]; exact rwithin_any _ _ _ W
  have H1 := hid h1
  have H2 := hid h2
  have HA := hid h
  have sm1 := h.i.small
  have sm2 := h.e.small
  have sm3 := h.u.small
  clear h h1 h2 hS hR bb
  obtain ⟨pl, si, x1, n1, c1, I, x2, n2, c2, E, x3, n3, c3, U⟩ := v
  unfold vS zSV at hC0
  unfold vS
  unfold SCells at hw1
  obtain ⟨_, f0, f1, f2, f3, f4⟩ := id hF
  dsimp only at *
  have HF := hid hF
  clear hF
  subst hw1
  cases z0 with
  | true =>
    have e0 : si = 0 := HZ.out.1 rfl
    subst e0
    have e1 : R = tS := HR1.out rfl
    subst e1
    go_enter Try.func17, Try.ntmps17
    go_wp2_with (go_at_call 18; refine hC0.mono ?_; rintro e w2 ⟨rfl, hb⟩)
    go_ret
    exact ⟨rfl, on HB.out hb⟩
  | false =>
    have e0 : si ≠ 0 := fun h => by have := HZ.out.2 h; cases this
    have HO2 := hid (HO.out e0)
    have HF1 : Hid (¬ IOk (I.map pI) → R = false) := fun hn => by
      cases hR : R with
      | false => rfl
      | true => exact absurd (HO2.out.1 hR).2.2.2.1 hn
    have HF2 : Hid (¬ LOk E → R = false) := fun hn => by
      cases hR : R with
      | false => rfl
      | true => exact absurd (HO2.out.1 hR).2.2.2.2.1 hn
    have HF3 : Hid (¬ UOk (U.map pU) E → R = false) := fun hn => by
      cases hR : R with
      | false => rfl
      | true => exact absurd (HO2.out.1 hR).2.2.2.2.2 hn
    have HF0 : Hid ((t1 = false ∨ t2 = false ∨ ¬ n3 ≤ n2) → R = false) := fun hn => by
      cases hR : R with
      | false => rfl
      | true =>
        have := HO2.out.1 hR
        rcases hn with hn | hn | hn
        · rw [H1.out] at hn
          simp at hn
          omega
        · rw [H2.out] at hn
          simp at hn
          omega
        · omega
    have HTr : Hid (t1 = true → t2 = true → n3 ≤ n2 → IOk (I.map pI) → LOk E → UOk (U.map pU) E → R = true) := fun q1 q2 q3 q4 q5 q6 => HO2.out.2 ⟨by rw [H1.out] at q1; simpa using q1, by rw [H2.out] at q2; simpa using q2, q3, q4, q5, q6⟩
    clear HR1 HZ HO e0
    cases t1
    · go_enter Try.func17, Try.ntmps17
      go_wp2_with (go_at_call 44; (with_reducible first | refine (HC1.out _).mono ?_ | refine (HC2.out _).mono ?_); rintro e w1 ⟨rfl, hw⟩; subst w1)
      go_ret
      exact ⟨by rw [HF0.out (.inl (by trivial))]; rfl, HB.out⟩
    cases t2
    · go_enter Try.func17, Try.ntmps17
      go_wp2_with (go_at_call 44; (with_reducible first | refine (HC1.out _).mono ?_ | refine (HC2.out _).mono ?_); rintro e w1 ⟨rfl, hw⟩; subst w1)
      go_ret
      exact ⟨by rw [HF0.out (.inr (.inl (by trivial)))]; rfl, HB.out⟩
    by_cases hnn : n3 ≤ n2
    rotate_left
    · have hnn' : (n2 : Int) < (n3 : Int) := by omega
      go_enter Try.func17, Try.ntmps17
      go_wp2_with (go_at_call 44; (with_reducible first | refine (HC1.out _).mono ?_ | refine (HC2.out _).mono ?_); rintro e w1 ⟨rfl, hw⟩; subst w1)
      go_ret
      exact ⟨by rw [HF0.out (.inr (.inr hnn))]; rfl, HB.out⟩
    have hnn' : ¬ (n2 : Int) < (n3 : Int) := by omega
    have hnn2 : ¬ n2 < n3 := by omega
    go_enter Try.func17, Try.ntmps17
    go_wp2_with (go_at_call 44; (with_reducible first | refine (HC1.out _).mono ?_ | refine (HC2.out _).mono ?_); rintro e w1 ⟨rfl, hw⟩; subst w1)
    clear f0 f1 f2 f3 f4
    go_loopw [3] (fun i wr => ∃ k : Nat, k ≤ n1 ∧ i = .int .i64 k ∧ Hid (SFacts (w.alloc (.cells #[.int .i64 pl, .int .i64 si, .slice x1 n1 c1, .slice x2 n2 c2, .slice x3 n3 c3] 26)) w.heap.size ⟨pl, si, x1, n1, c1, I, x2, n2, c2, E, x3, n3, c3, U⟩ wr ∧ IOk ((I.map pI).take k))) (fun i _ => n1 - (intOf i).toNat)
    case atStart => exact ⟨0, by omega, rfl, HF.out, by simp; exact iok_nil⟩
    case round =>
      obtain ⟨k, hk, rfl, HR⟩ := hrel
      have pa := HR.out.1.c2
      dsimp only at pa
      by_cases hlt : k < n1
      · have hkn : (k : Int) < (n1 : Int) := by omega
        obtain ⟨ea, ha1, hm1⟩ := Lis.some HA.out.i hlt
        have A1 := hid (HA.out.i.each ea hm1)
        have ra := HA.out.i.row
        dsimp only at ra
        rcases ra with h0 | ⟨b1, o1, rfl, hb1, _, hc1⟩
        · omega
        obtain ⟨k0, k1, k2, k3⟩ := i_at hc1 ha1
        have hbw := on HB.out HR.out.1.b
        have HY : Hid ((I.map pI)[k]? = some (pI ea)) := hid (map_get ha1)
        have pa' := After.cell pa
        have r0 := After.cell (keep hbw k0)
        have r1 := After.cell (keep hbw k1)
        have r2 := After.cell (keep hbw k2)
        have r3 := After.cell (keep hbw k3)
        obtain ⟨z, hz, hN0⟩ := rncheck_any ea.nm A1.out.1
        have hN := fun (p : After wr) => hN0 p.W
        have hC := fun (p : After wr) => rchunk_any (CAt.below A1.out.2 (on hbw p.h))
        obtain ⟨tC, htC⟩ : ∃ t, t = bz (okC (pC ea.ch)) := ⟨_, rfl⟩
        rw [← htC] at hC
        have HC := hid htC
        obtain ⟨tN, htN⟩ : ∃ t, (z == 0) = t := ⟨_, rfl⟩
        have htN' : (z != 0) = !tN := by unfold bne; rw [htN]
        have HN : Hid (tN = true ↔ NameOk (pI ea).nm) := hid (by show tN = true ↔ NameOk ea.nm; rw [← hz, ← htN]; simp)
        haveI := After.ne wr
        by_cases h0 : k = 0
        · subst h0
          clear hc1 ha1 hm1 hb1 hbw htC hz hN0 k0 k1 k2 k3
          simp only [Nat.zero_mul, Nat.add_zero] at r0 r1 r2 r3
          obtain ⟨nm, sz, x, m, c', dat, sum⟩ := ea
          unfold vC at hC
          ((try dsimp only at r0); (try dsimp only at r1); (try dsimp only at r2); (try dsimp only at r3); (try dsimp only at hC))
          cases tN with
          | false =>
            simp only [Bool.not_false] at htN'
            go_wp2_with fail
            refine wp_region_after (by kernel_rfl) (by kernel_rfl) ?_
            repeat (go_big_quiet_step ((first | (go_at_call 49; refine Calls.after_of (hN _)) | (go_at_call 50; refine Calls.after_of (hC _)))))
            refine wpQuiet_nil ?_
            rintro _ ⟨q, rfl⟩
            go_wp2_with fail
            go_ret
            exact ⟨by rw [HF1.out (iok_not HY.out (.inl fun h => by have := HN.out.2 h; cases this))]; rfl, on HB.out (on HR.out.1.b q.h)⟩
          | true =>
            simp only [Bool.not_true] at htN'
            cases tC with
            | false =>
              go_wp2_with fail
              refine wp_region_after (by kernel_rfl) (by kernel_rfl) ?_
              repeat (go_big_quiet_step ((first | (go_at_call 49; refine Calls.after_of (hN _)) | (go_at_call 50; refine Calls.after_of (hC _)))))
              refine wpQuiet_nil ?_
              rintro _ ⟨q, rfl⟩
              go_wp2_with fail
              go_ret
              exact ⟨by rw [HF1.out (iok_not HY.out (.inr (.inl (bz_not HC.out.symm))))]; rfl, on HB.out (on HR.out.1.b q.h)⟩
            | true =>
              go_wp2_with fail
              refine wp_region_after (by kernel_rfl) (by kernel_rfl) ?_
              repeat (go_big_quiet_step ((first | (go_at_call 49; refine Calls.after_of (hN _)) | (go_at_call 50; refine Calls.after_of (hC _)))))
              refine wpQuiet_nil ?_
              rintro _ ⟨q, rfl⟩
              go_wp2_with fail
              go_roundw
              case rel => exact ⟨1, by omega, by go_num, HR.out.1.below q.h, iok_step HY.out HR.out.2 (HN.out.1 (by trivial)) (bz_of HC.out.symm) (fun z h => by omega)⟩
              case measure => simp [intOf]; omega
        · obtain ⟨j, hj⟩ : ∃ j : Nat, (k : Int) - 1 = (j : Int) := ⟨k - 1, by omega⟩
          have hjk : j = k - 1 := by omega
          have hk0 : 0 < k := by omega
          have hjn : (j : Int) < (n1 : Int) := by omega
          obtain ⟨ep, hap, hmp⟩ := Lis.some HA.out.i (k := j) (by show j < n1; omega)
          obtain ⟨l0, _, _, _⟩ := i_at hc1 hap
          have s0 := After.cell (keep hbw l0)
          obtain ⟨p1, hp1⟩ : ∃ t, Op.bytesLess ea.nm.toList ep.nm.toList = t := ⟨_, rfl⟩
          obtain ⟨p2, hp2⟩ : ∃ t, (ea.nm.toList == ep.nm.toList) = t := ⟨_, rfl⟩
          have HP : Hid ((p1 || p2) = false ↔ lt (pI ep).nm (pI ea).nm) := hid (by rw [← hp1, ← hp2]; exact cmp_is _ _)
          have HG : Hid ((I.map pI)[k - 1]? = some (pI ep)) := hid (by rw [← hjk]; exact map_get hap)
          have HK : Hid (0 < k) := hid (by omega)
          clear hc1 ha1 hm1 hb1 hbw htC hz hN0 hap hmp l0 h0 hjk k0 k1 k2 k3
          obtain ⟨nm, sz, x, m, c', dat, sum⟩ := ea
          obtain ⟨nm', sz', x', m', c'', dat', sum'⟩ := ep
          unfold vC at hC
          ((try dsimp only at r0); (try dsimp only at r1); (try dsimp only at r2); (try dsimp only at r3); (try dsimp only at hC); (try dsimp only at hp1); (try dsimp only at hp2); (try dsimp only at s0))
          cases tN with
          | false =>
            simp only [Bool.not_false] at htN'
            go_wp2_with fail
            refine wp_region_after (by kernel_rfl) (by kernel_rfl) ?_
            repeat (go_big_quiet_step ((first | (go_at_call 49; refine Calls.after_of (hN _)) | (go_at_call 50; refine Calls.after_of (hC _)))))
            refine wpQuiet_nil ?_
            rintro _ ⟨q, rfl⟩
            go_wp2_with fail
            go_ret
            exact ⟨by rw [HF1.out (iok_not HY.out (.inl fun h => by have := HN.out.2 h; cases this))]; rfl, on HB.out (on HR.out.1.b q.h)⟩
          | true =>
            simp only [Bool.not_true] at htN'
            cases tC with
            | false =>
              go_wp2_with fail
              refine wp_region_after (by kernel_rfl) (by kernel_rfl) ?_
              repeat (go_big_quiet_step ((first | (go_at_call 49; refine Calls.after_of (hN _)) | (go_at_call 50; refine Calls.after_of (hC _)))))
              refine wpQuiet_nil ?_
              rintro _ ⟨q, rfl⟩
              go_wp2_with fail
              go_ret
              exact ⟨by rw [HF1.out (iok_not HY.out (.inr (.inl (bz_not HC.out.symm))))]; rfl, on HB.out (on HR.out.1.b q.h)⟩
            | true =>
              obtain ⟨pp, hpp⟩ : ∃ t, (p1 || p2) = t := ⟨_, rfl⟩
              rw [hpp] at HP
              cases pp with
              | false =>
                obtain ⟨rfl, rfl⟩ : p1 = false ∧ p2 = false := by simpa using hpp
                clear hpp
                go_wp2_with fail
                refine wp_region_after (by kernel_rfl) (by kernel_rfl) ?_
                repeat (go_big_quiet_step ((first | (go_at_call 49; refine Calls.after_of (hN _)) | (go_at_call 50; refine Calls.after_of (hC _)))))
                refine wpQuiet_nil ?_
                rintro _ ⟨q, rfl⟩
                go_wp2_with fail
                go_roundw
                case rel => exact ⟨k + 1, by omega, by go_num, HR.out.1.below q.h, iok_step HY.out HR.out.2 (HN.out.1 (by trivial)) (bz_of HC.out.symm) (fun z _ hz => by have := HG.out.symm.trans hz; injection this with this; rw [← this]; exact HP.out.1 (by trivial))⟩
                case measure => simp [intOf]; omega
              | true =>
                cases p1 <;> cases p2 <;> simp at hpp <;> clear hpp
                all_goals
                  go_wp2_with fail
                  refine wp_region_after (by kernel_rfl) (by kernel_rfl) ?_
                  repeat (go_big_quiet_step ((first | (go_at_call 49; refine Calls.after_of (hN _)) | (go_at_call 50; refine Calls.after_of (hC _)))))
                  refine wpQuiet_nil ?_
                  rintro _ ⟨q, rfl⟩
                  go_wp2_with fail
                  go_ret
                  exact ⟨by rw [HF1.out (iok_not HY.out (.inr (.inr ⟨_, HK.out, HG.out, fun h => by have := HP.out.2 h; cases this⟩)))]; rfl, on HB.out (on HR.out.1.b q.h)⟩
      · have hk2 : n1 = k := by omega
        subst hk2
        have HI1 : Hid (IOk (I.map pI)) := hid (iok_all (by rw [List.length_map]; exact HLen.out.1) HR.out.2)
        have HS1 := hid HR.out.1
        clear hlt
        go_wp2_with fail
        clear pa HR hk
        go_loopw [4] (fun i wr => ∃ k : Nat, k ≤ n2 ∧ i = .int .i64 k ∧ Hid (SFacts (w.alloc (.cells #[.int .i64 pl, .int .i64 si, .slice x1 n1 c1, .slice x2 n2 c2, .slice x3 n3 c3] 26)) w.heap.size ⟨pl, si, x1, n1, c1, I, x2, n2, c2, E, x3, n3, c3, U⟩ wr ∧ LOk (E.take k))) (fun i _ => n2 - (intOf i).toNat)
        case atStart => exact ⟨0, by omega, rfl, HS1.out, by simp; exact lok_nil⟩
        case round =>
          clear HS1
          obtain ⟨k, hk, rfl, HR⟩ := hrel
          have pa := HR.out.1.c3
          dsimp only at pa
          by_cases hlt : k < n2
          · have hkn : (k : Int) < (n2 : Int) := by omega
            obtain ⟨ea, ha1, hm1⟩ := Lis.some HA.out.e hlt
            have A1 := hid (HA.out.e.each ea hm1)
            have ra := HA.out.e.row
            dsimp only at ra
            rcases ra with h0 | ⟨b1, o1, rfl, hb1, _, hc1⟩
            · omega
            obtain ⟨k0, k1, k2, k3, k4, k5, k6⟩ := e_at hc1 ha1
            have hbw := on HB.out HR.out.1.b
            have HY := hid ha1
            have hC := rentry_any (w := wr) (F := F) A1.out
            obtain ⟨tC, htC⟩ : ∃ t, t = bz (okE ea) := ⟨_, rfl⟩
            rw [← htC] at hC
            have HC := hid htC
            obtain ⟨v, hv⟩ : ∃ t, (ea.seq == (k : Int) + 1) = t := ⟨_, rfl⟩
            have hv' : (ea.seq != (k : Int) + 1) = !v := by unfold bne; rw [hv]
            have HV : Hid (v = true ↔ ea.seq = ((k + 1 : Nat) : Int)) := hid (by rw [← hv]; simp)
            replace k0 := keep hbw k0
            replace k1 := keep hbw k1
            replace k2 := keep hbw k2
            replace k3 := keep hbw k3
            replace k4 := keep hbw k4
            replace k5 := keep hbw k5
            replace k6 := keep hbw k6
            clear hc1 ha1 hm1 hb1 hbw htC
            obtain ⟨g0, g1, g2, g3, g4, g5, g6⟩ := ea
            unfold vE at hC
            ((try dsimp only at k0); (try dsimp only at k1); (try dsimp only at k2); (try dsimp only at k3); (try dsimp only at k4); (try dsimp only at k5); (try dsimp only at k6); (try dsimp only at hC); (try dsimp only at hv); (try dsimp only at hv'))
            cases tC with
            | false =>
              go_wp2_with (go_at_call 51; refine hC.mono ?_; rintro e w2 ⟨rfl, hb2⟩)
              go_ret
              exact ⟨by rw [HF2.out fun h => bz_not HC.out.symm (h k _ HY.out).1]; rfl, on HB.out (on HR.out.1.b hb2)⟩
            | true =>
              cases v with
              | false =>
                simp only [Bool.not_false] at hv'
                go_wp2_with (go_at_call 51; refine hC.mono ?_; rintro e w2 ⟨rfl, hb2⟩; clear hC; replace pa := keep hb2 pa; replace k0 := keep hb2 k0)
                go_ret
                exact ⟨by rw [HF2.out fun h => by have := HV.out.2 (h k _ HY.out).2; cases this]; rfl, on HB.out (on HR.out.1.b hb2)⟩
              | true =>
                simp only [Bool.not_true] at hv'
                go_wp2_with (go_at_call 51; refine hC.mono ?_; rintro e w2 ⟨rfl, hb2⟩; clear hC; replace pa := keep hb2 pa; replace k0 := keep hb2 k0)
                go_roundw
                case rel => exact ⟨k + 1, by omega, by go_num, HR.out.1.below hb2, lok_step HY.out HR.out.2 (bz_of HC.out.symm) (HV.out.1 (by trivial))⟩
                case measure => simp [intOf]; omega
          · have hk2 : n2 = k := by omega
            subst hk2
            have HI2 : Hid (LOk E) := hid (lok_all HLen.out.2.1 HR.out.2)
            have HS2 := hid HR.out.1
            clear hlt
            go_wp2_with fail
            clear pa HR hk
            obtain ⟨kd, hkd⟩ : ∃ kd : Nat, (n2 : Int) - (n3 : Int) = (kd : Int) := ⟨n2 - n3, by omega⟩
            have HU := hid (uok_is (U := U.map pU) (L := E) (by rw [List.length_map]; have := HLen.out; omega))
            have ekd : E.length - (U.map pU).length = kd := by rw [List.length_map]; have := HLen.out; omega
            have hul : (U.map pU).length = n3 := by rw [List.length_map]; exact HLen.out.2.2
            rw [ekd, hul] at HU
            clear ekd hul
            go_loopw [5] (fun i wr => ∃ k : Nat, k ≤ n3 ∧ i = .int .i64 k ∧ Hid (SFacts (w.alloc (.cells #[.int .i64 pl, .int .i64 si, .slice x1 n1 c1, .slice x2 n2 c2, .slice x3 n3 c3] 26)) w.heap.size ⟨pl, si, x1, n1, c1, I, x2, n2, c2, E, x3, n3, c3, U⟩ wr ∧ UPre (U.map pU) (E.drop kd) k)) (fun i _ => n3 - (intOf i).toNat)
            case atStart => exact ⟨0, by omega, rfl, HS2.out, fun i u e hi => by omega⟩
            case round =>
              clear HS2
              obtain ⟨k, hk, rfl, HR⟩ := hrel
              have pa := HR.out.1.c3
              have pb := HR.out.1.c4
              dsimp only at pa pb
              by_cases hlt : k < n3
              · have hkn : (k : Int) < (n3 : Int) := by omega
                obtain ⟨q, hq⟩ : ∃ q : Nat, (kd : Int) + (k : Int) = (q : Int) := ⟨kd + k, by omega⟩
                have hqn : (q : Int) < (n2 : Int) := by omega
                obtain ⟨ea, ha1, hm1⟩ := Lis.some HA.out.e (k := q) (by show q < n2; omega)
                obtain ⟨ub, ha2, hm2⟩ := Lis.some HA.out.u hlt
                have A2 := hid (HA.out.u.each ub hm2)
                have ra := HA.out.e.row
                have rb := HA.out.u.row
                dsimp only at ra rb
                rcases ra with h0 | ⟨b1, o1, rfl, hb1, _, hc1⟩
                · omega
                rcases rb with h0 | ⟨b2, o2, rfl, hb2, _, hc2⟩
                · omega
                obtain ⟨k0, k1, k2, k3, k4, k5, k6⟩ := e_at hc1 ha1
                obtain ⟨l0, l1, l2, l3, l4, l5⟩ := u_at hc2 ha2
                have hbw := on HB.out HR.out.1.b
                have HY : Hid ((U.map pU)[k]? = some (pU ub) ∧ (E.drop kd)[k]? = some ea) := hid ⟨map_get ha2, by rw [List.getElem?_drop, show kd + k = q by omega]; exact ha1⟩
                have bE := al wr (.cells #[.int .i64 ub.seq, .string ub.nm, .bool ub.has, .int .i64 ub.was.sz, .slice ub.was.x ub.was.n ub.was.c, .int .u32 ub.was.sum] 89)
                obtain ⟨w1, hw1⟩ : ∃ w1, w1 = (wr.alloc (.cells #[.int .i64 ub.seq, .string ub.nm, .bool ub.has, .int .i64 ub.was.sz, .slice ub.was.x ub.was.n ub.was.c, .int .u32 ub.was.sum] 89)).alloc (.cells #[.int .i64 ea.seq, .int .i64 ea.cl, .int .i64 ea.ks, .string ea.nm, .int .i64 ea.code, .bool ea.gone, .int .i64 ea.sz] 67) := ⟨_, rfl⟩
                have bW : Below wr.heap.size wr w1 := by rw [hw1]; exact on (al _ _) (al _ _)
                have HBW := hid bW
                have HH := hid (on hbw bW)
                replace k0 := keep bE (keep hbw k0)
                replace k1 := keep bE (keep hbw k1)
                replace k2 := keep bE (keep hbw k2)
                replace k3 := keep bE (keep hbw k3)
                replace k4 := keep bE (keep hbw k4)
                replace k5 := keep bE (keep hbw k5)
                replace k6 := keep bE (keep hbw k6)
                replace l0 := keep hbw l0
                replace l1 := keep hbw l1
                replace l2 := keep hbw l2
                replace l3 := keep hbw l3
                replace l4 := keep hbw l4
                replace l5 := keep hbw l5
                have pa2 := keep bE pa
                have pb2 := keep bE pb
                have HC : Hid (∀ W, Below w1.heap.size w1 W → Calls Try.prog 50 #[vC ub.was] W fun e w' => e = .returned (.bool (bz (okC (pC ub.was)))) ∧ Below W.heap.size W w') := fun W hW => rchunk_any (CAt.below A2.out.2 (on HH.out hW))
                have HS : Hid (∀ W, Below w1.heap.size w1 W → Calls Try.prog 19 #[vC ub.was, vC zCV] W fun e w' => e = .returned (.bool (bz (pC ub.was = zC))) ∧ Below W.heap.size W w') := fun W hW => rsameChunk_any (CAt.below A2.out.2 (on HH.out hW)) (zCV_at W F)
                have HP : Hid (∀ W, Below w1.heap.size w1 W → W.cell? ⟨wr.heap.size, 2, none⟩ = some (.bool ub.has) ∧ W.cell? ⟨wr.heap.size, 3, none⟩ = some (.int .i64 ub.was.sz) ∧ W.cell? ⟨wr.heap.size, 4, none⟩ = some (.slice ub.was.x ub.was.n ub.was.c) ∧ W.cell? ⟨wr.heap.size, 5, none⟩ = some (.int .u32 ub.was.sum)) := fun W hW =>
                  ⟨keep hW (by rw [hw1]; go_simp), keep hW (by rw [hw1]; go_simp), keep hW (by rw [hw1]; go_simp), keep hW (by rw [hw1]; go_simp)⟩
                have HWW := hid hw1
                obtain ⟨tC, htC⟩ : ∃ t, t = bz (okC (pC ub.was)) := ⟨_, rfl⟩
                obtain ⟨tS', htS⟩ : ∃ t, t = bz (pC ub.was = zC) := ⟨_, rfl⟩
                obtain ⟨v0, hv0⟩ : ∃ t, (ub.seq == ea.seq) = t := ⟨_, rfl⟩
                obtain ⟨v1, hv1⟩ : ∃ t, (ub.nm.toList == ea.nm.toList) = t := ⟨_, rfl⟩
                have HE := hid (okU_is hv0 hv1 htC htS)
                rw [← htC] at HC
                rw [← htS] at HS
                have hw0 : (ub.seq != ea.seq) = !v0 := by unfold bne; rw [hv0]
                have hw1' : (ub.nm.toList != ea.nm.toList) = !v1 := by unfold bne; rw [hv1]
                clear hc1 hc2 ha1 ha2 hm1 hm2 hb1 hb2 hbw htC htS hw1 bW bE
                obtain ⟨g0, g1, g2, g3, g4, g5, g6⟩ := ea
                obtain ⟨sq, nm, ha, sz, x, m', c', dat, sum⟩ := ub
                unfold vC at HC
                unfold vC zCV at HS
                ((try dsimp only at k0); (try dsimp only at k1); (try dsimp only at k2); (try dsimp only at k3); (try dsimp only at k4); (try dsimp only at k5); (try dsimp only at k6); (try dsimp only at l0); (try dsimp only at l1); (try dsimp only at l2); (try dsimp only at l3); (try dsimp only at l4); (try dsimp only at l5); (try dsimp only at HC); (try dsimp only at HS); (try dsimp only at HP); (try dsimp only at HWW); (try dsimp only at hv0); (try dsimp only at hv1); (try dsimp only at hw0); (try dsimp only at hw1'))
                cases v0 with
                | false =>
                  simp only [Bool.not_false] at hw0
                  go_wp2_with fail
                  go_ret
                  exact ⟨by rw [HF3.out fun h => by have := HE.out.2 (HU.out.1 h k _ _ hlt HY.out.1 HY.out.2); simp at this]; rfl, by have := HH.out; rw [HWW.out] at this; exact this⟩
                | true =>
                  simp only [Bool.not_true] at hw0
                  cases v1 with
                  | false =>
                    simp only [Bool.not_false] at hw1'
                    go_wp2_with fail
                    go_ret
                    exact ⟨by rw [HF3.out fun h => by have := HE.out.2 (HU.out.1 h k _ _ hlt HY.out.1 HY.out.2); simp at this]; rfl, by have := HH.out; rw [HWW.out] at this; exact this⟩
                  | true =>
                    simp only [Bool.not_true] at hw1'
                    have hC0 := HC.out _ (Below.refl _ w1)
                    rw [HWW.out] at hC0
                    cases tC with
                    | false =>
                      go_wp2_with (go_at_call 50; refine hC0.mono ?_; rintro e w2 ⟨rfl, hb2⟩; rw [← HWW.out] at hb2)
                      go_ret
                      exact ⟨by rw [HF3.out fun h => by have := HE.out.2 (HU.out.1 h k _ _ hlt HY.out.1 HY.out.2); simp at this]; rfl, on HH.out hb2⟩
                    | true =>
                      cases ha with
                      | true =>
                        go_wp2_with (go_at_call 50; refine hC0.mono ?_; rintro e w2 ⟨rfl, hb2⟩; clear hC0; rw [← HWW.out] at hb2; obtain ⟨q2, q3, q4, q5⟩ := HP.out w2 hb2)
                        go_roundw
                        case rel => exact ⟨k + 1, by omega, by go_num, HR.out.1.below (on HBW.out hb2), upre_step HY.out.1 HY.out.2 HR.out.2 (HE.out.1 (by simp))⟩
                        case measure => simp [intOf]; omega
                      | false =>
                        cases tS' with
                        | true =>
                          go_wp2_with (first
                            | (go_at_call 50; refine hC0.mono ?_; rintro e w2 ⟨rfl, hb2⟩; clear hC0; rw [← HWW.out] at hb2; obtain ⟨q2, q3, q4, q5⟩ := HP.out w2 hb2; have hS0 := HS.out w2 hb2)
                            | (go_at_call 19; refine hS0.mono ?_; rintro e w3 ⟨rfl, hb3⟩))
                          go_roundw
                          case rel => exact ⟨k + 1, by omega, by go_num, HR.out.1.below (on HBW.out (on hb2 hb3)), upre_step HY.out.1 HY.out.2 HR.out.2 (HE.out.1 (by simp))⟩
                          case measure => simp [intOf]; omega
                        | false =>
                          go_wp2_with (first
                            | (go_at_call 50; refine hC0.mono ?_; rintro e w2 ⟨rfl, hb2⟩; clear hC0; rw [← HWW.out] at hb2; obtain ⟨q2, q3, q4, q5⟩ := HP.out w2 hb2; have hS0 := HS.out w2 hb2)
                            | (go_at_call 19; refine hS0.mono ?_; rintro e w3 ⟨rfl, hb3⟩))
                          go_ret
                          exact ⟨by rw [HF3.out fun h => by have := HE.out.2 (HU.out.1 h k _ _ hlt HY.out.1 HY.out.2); simp at this]; rfl, on HH.out (on hb2 hb3)⟩
              · have hk2 : n3 = k := by omega
                subst hk2
                go_wp2_with fail
                go_ret
                exact ⟨by rw [HTr.out (by trivial) (by trivial) hnn HI1.out HI2.out (HU.out.2 HR.out.2)]; rfl, on HB.out HR.out.1.b⟩

end Go.Proofs.Ytnfflmndejbepaa.Sh
