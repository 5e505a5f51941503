/-
  What was written is read back, and nothing is left: 'mooringlaw05.WireBack' returns true and leaves its argument as it was, where it is of bulk at most 1048576.
  Conditions: the bulk's bound.
-/
import Derived.Test.YtjodeceaogngfaaRows
import Derived.WalkKit
import Derived.ProofKit
import Derived.OpenShut
import Derived.SizedLaws
import Derived.ShutString
import Derived.ChangeOld
import Derived.Below
import Derived.JoinedCond
import Derived.Test.YtjodeceaogngfaaByUpto
import Derived.Test.YtjodeceaogngfaaByRows
import Derived.Test.YtjodeceaogngfaaWiItem
import Derived.Test.YtjodeceaogngfaaWiBack
namespace Go.Proofs.Ytjodeceaogngfaa.wireBack
open Go.ChangeShapes Go.WideShapes Go.ChangeAt Go.RowKit By
open Wi
set_option linter.unusedVariables false
set_option linter.unusedSimpArgs false
set_option maxRecDepth 100000

theorem own : ownKnob Try.prog.godebug = none := by kernel_rfl
theorem laidOut : laidOutB Try.prog = true := by kernel_rfl

set_option maxHeartbeats 8000000 in
set_option maxRecDepth 100000 in
theorem walk (a : Option Addr) (len cap : Nat) (D N : Nat → Int) (X : Nat → Option Addr) (Ln C : Nat → Nat) (F : Nat → Nat → Nat) (M : Nat → Int) (w : World) (h1 : ItemsIn w a len cap D N X Ln C F M) (m1 : len ≤ 1048576 ∧ ∀ i, i < len → Ln i ≤ 1048576) :
    Calls Try.prog 5 #[.slice a len cap] w fun e w' => e = .returned (.bool true) ∧ Below w.heap.size w w' := by
  obtain ⟨en, hen⟩ : ∃ en : Nat → List Nat, ∀ i, en i = enI (D i) (N i).toNat ((List.range (Ln i)).map (F i)) := ⟨_, fun i => rfl⟩
  have H1 : Hid (ItemsIn w a len cap D N X Ln C F M ∧ (∀ i, i < len → Ln i ≤ 1048576) ∧ ∀ i, en i = enI (D i) (N i).toNat ((List.range (Ln i)).map (F i))) := ⟨h1, m1.2, hen⟩
  have hlm := m1.1
  have HS : Hid (IsSl w (.slice none 0 0) (cat en 0) ∧ Below w.heap.size w w ∧ (cat en 0).length ≤ 0 * 1048600) := ⟨⟨none, 0, rfl, Sl.empty _⟩, Below.refl _ _, Nat.le_refl _⟩
  clear h1 m1 hen
  go_enter Try.func5, Try.ntmps5
  go_wp2_with fail
  go_loopw [3, 4] (fun b i wr => ∃ k : Nat, k ≤ len ∧ i = .int .i64 k ∧ Hid (IsSl wr b (cat en k) ∧ Below w.heap.size w wr ∧ (cat en k).length ≤ k * 1048600)) (fun _ i _ => len - (intOf i).toNat)
  case atStart => exact ⟨0, by omega, rfl, HS.out⟩
  case round =>
    obtain ⟨k, hk, rfl, HR⟩ := hrel
    clear HS
    by_cases hlt : k < len
    · obtain ⟨hT, hb, hTl⟩ := HR.out
      rcases H1.out.1.row with h0 | ⟨b, o, rfl, hbl, hcells⟩
      · omega
      obtain ⟨f0, f1, f2, f3⟩ := hcells k hlt
      have k0 := (hb.cell (p := ⟨b, o + k * 4, none⟩) hbl).trans f0
      have k1 := (hb.cell (p := ⟨b, o + k * 4 + 1, none⟩) hbl).trans f1
      have k2 := (hb.cell (p := ⟨b, o + k * 4 + 2, none⟩) hbl).trans f2
      have k3 := (hb.cell (p := ⟨b, o + k * 4 + 3, none⟩) hbl).trans f3
      have hit := H1.out.1.item k hlt
      have hNb := bounds_u64 hit.n_
      obtain ⟨N1, hN1⟩ : ∃ N1 : Nat, N1 = (N k).toNat := ⟨_, rfl⟩
      have hN2 : N k = (N1 : Int) := by omega
      have hNl : N1 < 18446744073709551616 := by omega
      rw [hN2] at k1
      have hmk := H1.out.2.1 k hlt
      have hsl := (Sl.of_in hit.bytes).below hb
      have hke := enI_len (D k) N1 ((List.range (Ln k)).map (F k)) hNl (by simp; omega)
      have hkm : k * 1048600 ≤ 1048576 * 1048600 := Nat.mul_le_mul_right _ (by omega)
      have hek := H1.out.2.2 k
      rw [← hN1] at hek
      obtain ⟨xb, cb, rfl, hsb⟩ := hT
      have hcall0 := written_any (cat en k).length cb (Ln k) (C k) N1 xb (X k) (cat en k) ((List.range (Ln k)).map (F k)) (D k) (M k) wr hsb hsl hNl (by omega)
      have hcall : Calls Try.prog 8 #[.slice xb (cat en k).length cb, .agg #[.int .i64 (D k), .int .u64 (N1 : Int), .slice (X k) (Ln k) (C k), .int .i64 (M k)]] wr fun ed w' => ∃ v1 v2, ed = .returned (.tuple #[v1, v2]) ∧ IsSl w' v1 (cat en (k + 1)) ∧ Below w.heap.size w w' := hcall0.mono fun ed w' ⟨v1, v2, a1, a2, _, a4, _⟩ => ⟨v1, v2, a1, by rw [cat, hek]; exact a2, hb.trans (a4.mono hb.size)⟩
      have HT : Hid ((cat en (k + 1)).length ≤ (k + 1) * 1048600) := by
        show (cat en (k + 1)).length ≤ _
        rw [cat, List.length_append, hek]
        simp at hke
        omega
      clear hb HR f0 f1 f2 f3 hcells hit hNb hN1 hN2 hsl hke hkm hTl hsb hcall0 hek
      generalize (cat en k).length = tl at *
      generalize D k = D1 at *
      generalize N k = N0 at *
      generalize X k = X1 at *
      generalize Ln k = L1 at *
      generalize C k = C1 at *
      generalize M k = M1 at *
      go_wp2_with (go_at_call 8; refine hcall.mono ?_; rintro e w4 ⟨v1, v2, rfl, q1, q2⟩; have HQ := hideP (And.intro q1 q2); clear hcall q1 q2)
      go_roundw
      case rel => exact ⟨k + 1, by omega, by go_num, HQ.out.1, HQ.out.2, HT.out⟩
      case measure => simp [intOf]; omega
    · have hk2 : k = len := by omega
      subst hk2
      obtain ⟨hT, hb, hTl⟩ := HR.out
      have hkm : k * 1048600 ≤ 1048576 * 1048600 := Nat.mul_le_mul_right _ (by omega)
      obtain ⟨xb, cb, rfl, hsb⟩ := hT
      have hRd := read_any xb (cat en k).length cb (cat en k) wr hsb (by omega)
      have hcr : cat en k = rs en 0 (k - 0) := by
        have := cat_rs en k 0
        rw [cat, List.nil_append, Nat.zero_add] at this
        rw [Nat.sub_zero]
        exact this.symm
      have HB : Hid (Below w.heap.size w wr) := hb
      have Hcr : Hid (cat en k = rs en 0 (k - 0)) := hcr
      clear HR hb hTl hkm hsb hcr
      generalize (cat en k).length = tl at *
      go_wp2_with (go_at_call 11; refine hRd.mono ?_; rintro e w2 ⟨p, yp, cp, rfl, g1, g2, g3, g4⟩; clear hRd)
      have hwB : Below w.heap.size w w2 := HB.out.trans (g2.mono HB.out.size)
      have hpB : w.heap.size ≤ p := Nat.le_trans HB.out.size g1
      have HS2 : Hid ((∃ xp np cp, PRd w2 p xp np cp (rs en 0 (k - 0)) 0) ∧ Below w.heap.size w w2) := ⟨⟨_, _, _, by rw [← Hcr.out]; exact g3⟩, hwB⟩
      clear g1 g2 g3 g4 hwB HB Hcr
      go_loopw [6] (fun i wr => ∃ j : Nat, j ≤ k ∧ i = .int .i64 j ∧ Hid ((∃ xp np cp, PRd wr p xp np cp (rs en j (k - j)) 0) ∧ Below w.heap.size w wr)) (fun i _ => k - (intOf i).toNat)
      case atStart => exact ⟨0, by omega, rfl, HS2.out⟩
      case round =>
        obtain ⟨j, hj, rfl, HR⟩ := hrel
        clear HS2
        by_cases hlt2 : j < k
        · obtain ⟨⟨xp, np, cq, hP⟩, hb⟩ := HR.out
          rcases H1.out.1.row with h0 | ⟨b, o, rfl, hbl, hcells⟩
          · omega
          obtain ⟨f0, f1, f2, f3⟩ := hcells j hlt2
          have k0 := (hb.cell (p := ⟨b, o + j * 4, none⟩) hbl).trans f0
          have k1 := (hb.cell (p := ⟨b, o + j * 4 + 1, none⟩) hbl).trans f1
          have k2 := (hb.cell (p := ⟨b, o + j * 4 + 2, none⟩) hbl).trans f2
          have k3 := (hb.cell (p := ⟨b, o + j * 4 + 3, none⟩) hbl).trans f3
          have hit := H1.out.1.item j hlt2
          have hNb := bounds_u64 hit.n_
          obtain ⟨N1, hN1⟩ : ∃ N1 : Nat, N1 = (N j).toNat := ⟨_, rfl⟩
          have hN2 : N j = (N1 : Int) := by omega
          have hNl : N1 < 18446744073709551616 := by omega
          rw [hN2] at k1
          have hmk := H1.out.2.1 j hlt2
          have hsl := Sl.of_in hit.bytes
          have hek := H1.out.2.2 j
          rw [← hN1] at hek
          obtain ⟨r, hr⟩ : ∃ r, r = rs en (j + 1) (k - (j + 1)) := ⟨_, rfl⟩
          have Hr : Hid (r = rs en (j + 1) (k - (j + 1))) := hr
          have hrs : rs en j (k - j) = en j ++ r := by
            rw [show k - j = (k - (j + 1)) + 1 by omega, rs, ← hr]
          rw [hrs, hek] at hP
          obtain ⟨kl, hkl⟩ : ∃ kl, kl = (List.range (Ln j)).map (F j) := ⟨_, rfl⟩
          rw [← hkl] at hsl hP
          have hpl := hP.lt
          obtain ⟨v, hv⟩ : ∃ v, v = wr.alloc (.cells #[.int .i64 (D j), .int .u64 (N1 : Int), .slice (X j) (Ln j) (C j), .int .i64 (M j)] 28) := ⟨_, rfl⟩
          have hbv : Below wr.heap.size wr v := by rw [hv]; exact (Below.refl _ _).alloc (Nat.le_refl _) _
          have HV : Hid (RS w v p wr.heap.size (D j) N1 (X j) (Ln j) (C j) (enI (D j) N1 kl ++ r)) :=
            ⟨⟨_, _, _, hP.below hbv⟩, by rw [hv]; simp, by rw [hv]; simp, by rw [hv]; simp, hb.trans (hbv.mono hb.size), by omega, hpB⟩
          clear hP hb HR f0 f1 f2 f3 hcells hit hNb hN1 hN2 hek hr hrs hkl hbv hpl
          generalize D j = D1 at *
          generalize N j = N0 at *
          generalize X j = X1 at *
          generalize Ln j = L1 at *
          generalize C j = C1 at *
          generalize M j = M1 at *
          by_cases hD0 : D1 = 0
          · subst hD0
            have HV : Hid (RS w v p wr.heap.size 0 N1 X1 L1 C1 (uv N1 ++ r)) := HV.out
            obtain ⟨g, hg⟩ : ∃ g, g = wr.heap.size := ⟨_, rfl⟩
            rw [← hg] at HV
            have c0 := HV.out.c0
            have c1 := HV.out.c1
            have c2 := HV.out.c2
            have hcall : ∀ v, RS w v p g 0 N1 X1 L1 C1 (uv N1 ++ r) → Calls Try.prog 13 #[.pointer (some ⟨p, 0, none⟩)] v.drew fun ed v' => ed = .returned (.int .u64 (N1 : Int)) ∧ RS w v' p g 0 N1 X1 L1 C1 r := fun v hv => by
              have hv1 := hv.drewN 1
              obtain ⟨xp, np, cp, h1⟩ := hv1.rd
              exact (puv_any p np cp 0 xp _ _ h1).mono fun ed v' ⟨a1, a2⟩ => by
                rw [rUv_back hNl] at a1 a2
                exact ⟨a1, hv1.after a2⟩
            go_wp2_with fail
            rw [← hv, ← hg]
            clear hv hg k0 k1 k2 k3
            have hc := hcall v HV.out
            refine wp_region_held_drew (S := fun u => u.cell? ⟨g, 0, none⟩ = some (.int .i64 0) ∧ u.cell? ⟨g, 1, none⟩ = some (.int .u64 (N1 : Int))) (by kernel_rfl) ⟨c0, c1⟩ (fun hHeld => ?_)
            refine wpAnyH_take (i := 0) (v := ?_) rfl (by kernel_rfl) (by kernel_rfl) (by kernel_rfl) (fun _ _ _ h => h) (Or.inl ⟨by rfl, ?_⟩) (by assumption) ?_
            case refine_2 => (intro w hSw; (try dsimp only at hSw); go_simp; (try with_reducible rfl))
            (try simp only [Act.put, List.getElem_toArray, List.getElem_cons_succ, List.getElem_cons_zero, List.setIfInBounds_toArray, List.set_cons_zero, List.set_cons_succ])
            refine wpAnyH_take (i := 1) (v := ?_) rfl (by kernel_rfl) (by kernel_rfl) (by kernel_rfl) (fun _ _ _ h => h) (Or.inl ⟨by rfl, ?_⟩) (by assumption) ?_
            case refine_2 => (intro w hSw; (try dsimp only at hSw); go_simp; (try with_reducible rfl))
            (try simp only [Act.put, List.getElem_toArray, List.getElem_cons_succ, List.getElem_cons_zero, List.setIfInBounds_toArray, List.set_cons_zero, List.set_cons_succ])
            refine wpAnyH_take (i := 2) (v := ?_) rfl (by kernel_rfl) (by kernel_rfl) (by kernel_rfl) (fun _ _ _ h => h) (Or.inl ⟨by rfl, ?_⟩) (by assumption) ?_
            case refine_2 => (intro w hSw; (try dsimp only at hSw); go_simp; (try with_reducible rfl))
            (try simp only [Act.put, List.getElem_toArray, List.getElem_cons_succ, List.getElem_cons_zero, List.setIfInBounds_toArray, List.set_cons_zero, List.set_cons_succ])
            refine wpAnyH_take (i := 3) (v := ?_) rfl (by kernel_rfl) (by kernel_rfl) (by kernel_rfl) (fun _ _ _ h => h) (Or.inl ⟨by rfl, ?_⟩) (by assumption) ?_
            case refine_2 => (intro w hSw; (try dsimp only at hSw); go_simp; (try with_reducible rfl))
            (try simp only [Act.put, List.getElem_toArray, List.getElem_cons_succ, List.getElem_cons_zero, List.setIfInBounds_toArray, List.set_cons_zero, List.set_cons_succ])
            refine wpAnyH_take (i := 4) (v := ?_) rfl (by kernel_rfl) (by kernel_rfl) (by kernel_rfl) (fun _ _ _ h => h) (Or.inl ⟨by rfl, ?_⟩) (by assumption) ?_
            case refine_2 => (intro w hSw; (try dsimp only at hSw); go_simp; (try with_reducible rfl))
            (try simp only [Act.put, List.getElem_toArray, List.getElem_cons_succ, List.getElem_cons_zero, List.setIfInBounds_toArray, List.set_cons_zero, List.set_cons_succ])
            refine wpAnyH_take (i := 6) (v := ?_) rfl (by kernel_rfl) (by kernel_rfl) (by kernel_rfl) (fun _ _ _ h => h) (Or.inl ⟨by rfl, ?_⟩) (by assumption) ?_
            case refine_2 => (intro w hSw; (try dsimp only at hSw); go_simp; (try with_reducible rfl))
            (try simp only [Act.put, List.getElem_toArray, List.getElem_cons_succ, List.getElem_cons_zero, List.setIfInBounds_toArray, List.set_cons_zero, List.set_cons_succ])
            refine wpAnyH_take (i := 7) (v := ?_) rfl (by kernel_rfl) (by kernel_rfl) (by kernel_rfl) (fun _ _ _ h => h) (Or.inl ⟨by rfl, ?_⟩) (by assumption) ?_
            case refine_2 => (intro w hSw; (try dsimp only at hSw); go_simp; (try with_reducible rfl))
            (try simp only [Act.put, List.getElem_toArray, List.getElem_cons_succ, List.getElem_cons_zero, List.setIfInBounds_toArray, List.set_cons_zero, List.set_cons_succ])
            refine wpAnyH_ready (rs := [5]) (by kernel_rfl) (by simp) ?_
            refine AllReadyH.cons rfl (fun K hK => ?_) AllReadyH.nil
            go_simp
            refine hc.mono ?_
            rintro e v1 ⟨rfl, hgo⟩
            have HV2 := hideP hgo
            clear hc hcall HV c0 c1 c2
            have HV := HV2
            have c0 := HV.out.c0
            have c1 := HV.out.c1
            have c2 := HV.out.c2
            clear HV2 hgo
            refine hK.out _ _ ⟨c0, c1⟩ (fun hHeld => ?_)
            clear hK K
            refine wpAnyH_take (i := 8) (v := ?_) rfl (by kernel_rfl) (by kernel_rfl) (by kernel_rfl) (fun _ _ _ h => h) (Or.inl ⟨by rfl, ?_⟩) (by assumption) ?_
            case refine_2 => (intro w hSw; (try dsimp only at hSw); go_simp; (try with_reducible rfl))
            (try simp only [Act.put, List.getElem_toArray, List.getElem_cons_succ, List.getElem_cons_zero, List.setIfInBounds_toArray, List.set_cons_zero, List.set_cons_succ])
            refine wpAnyH_take (i := 9) (v := ?_) rfl (by kernel_rfl) (by kernel_rfl) (by kernel_rfl) (fun _ _ _ h => h) (Or.inl ⟨by rfl, ?_⟩) (by assumption) ?_
            case refine_2 => (intro w hSw; (try dsimp only at hSw); go_simp; (try with_reducible rfl))
            (try simp only [Act.put, List.getElem_toArray, List.getElem_cons_succ, List.getElem_cons_zero, List.setIfInBounds_toArray, List.set_cons_zero, List.set_cons_succ])
            refine wpAnyH_take (i := 10) (v := ?_) rfl (by kernel_rfl) (by kernel_rfl) (by kernel_rfl) (fun _ _ _ h => h) (Or.inl ⟨by rfl, ?_⟩) (by assumption) ?_
            case refine_2 => (intro w hSw; (try dsimp only at hSw); go_simp; (try with_reducible rfl))
            (try simp only [Act.put, List.getElem_toArray, List.getElem_cons_succ, List.getElem_cons_zero, List.setIfInBounds_toArray, List.set_cons_zero, List.set_cons_succ])
            refine wpAnyH_done (by kernel_rfl) ?_ _
            go_wp2_with fail
            go_quiet (fail)
            go_wp2_with fail
            have HV2 := hideP (HV.out.drewN nq)
            clear HV c0 c1 c2
            generalize v1.drewN nq = v2 at *
            have HV := HV2
            have c0 := HV.out.c0
            have c1 := HV.out.c1
            have c2 := HV.out.c2
            clear HV2
            go_quiet (fail)
            go_wp2_with fail
            have HV2 := hideP (HV.out.drewN nq)
            clear HV c0 c1 c2
            generalize v2.drewN nq = v3 at *
            have HV := HV2
            have c0 := HV.out.c0
            have c1 := HV.out.c1
            have c2 := HV.out.c2
            clear HV2
            go_quiet (fail)
            go_wp2_with fail
            have HV2 := hideP (HV.out.drewN nq)
            clear HV c0 c1 c2
            generalize v3.drewN nq = v4 at *
            have HV := HV2
            have c0 := HV.out.c0
            have c1 := HV.out.c1
            have c2 := HV.out.c2
            clear HV2
            go_quiet (fail)
            go_wp2_with fail
            have HV2 := hideP (HV.out.drewN nq)
            clear HV c0 c1 c2
            generalize v4.drewN nq = v5 at *
            have HV := HV2
            have c0 := HV.out.c0
            have c1 := HV.out.c1
            have c2 := HV.out.c2
            clear HV2
            go_roundw
            case rel => exact ⟨j + 1, by omega, by go_num, by rw [← Hr.out]; exact HV.out.rd, HV.out.bel⟩
            case measure => simp [intOf]; omega
          by_cases hD1 : D1 = 1
          · subst hD1
            have HV : Hid (RS w v p wr.heap.size 1 N1 X1 L1 C1 (uv (zz (sg N1)) ++ r)) := HV.out
            obtain ⟨g, hg⟩ : ∃ g, g = wr.heap.size := ⟨_, rfl⟩
            rw [← hg] at HV
            have c0 := HV.out.c0
            have c1 := HV.out.c1
            have c2 := HV.out.c2
            have hcall : ∀ v, RS w v p g 1 N1 X1 L1 C1 (uv (zz (sg N1)) ++ r) → Calls Try.prog 14 #[.pointer (some ⟨p, 0, none⟩)] v.drew fun ed v' => ed = .returned (.int .i64 (sg N1)) ∧ RS w v' p g 1 N1 X1 L1 C1 r := fun v hv => by
              have hv1 := hv.drewN 1
              obtain ⟨xp, np, cp, h1⟩ := hv1.rd
              exact (pvar_any p np cp 0 xp _ _ h1).mono fun ed v' ⟨a1, a2⟩ => by
                rw [rUv_back (zz_lt (sg_bound hNl).1 (sg_bound hNl).2)] at a1 a2
                rw [unzz_zz] at a1
                exact ⟨a1, hv1.after a2⟩
            have hcv := sg_wrap hNl
            generalize sg N1 = Z at hcv hcall HV
            go_wp2_with fail
            rw [← hv, ← hg]
            clear hv hg k0 k1 k2 k3
            go_quiet (fail)
            go_wp2_with fail
            have HV2 := hideP (HV.out.drewN nq)
            clear HV c0 c1 c2
            generalize v.drewN nq = v1 at *
            have HV := HV2
            have c0 := HV.out.c0
            have c1 := HV.out.c1
            have c2 := HV.out.c2
            clear HV2
            have hc := hcall v1 HV.out
            refine wp_region_held_drew (S := fun u => u.cell? ⟨g, 0, none⟩ = some (.int .i64 1) ∧ u.cell? ⟨g, 1, none⟩ = some (.int .u64 (N1 : Int))) (by kernel_rfl) ⟨c0, c1⟩ (fun hHeld => ?_)
            refine wpAnyH_take (i := 0) (v := ?_) rfl (by kernel_rfl) (by kernel_rfl) (by kernel_rfl) (fun _ _ _ h => h) (Or.inl ⟨by rfl, ?_⟩) (by assumption) ?_
            case refine_2 => (intro w hSw; (try dsimp only at hSw); go_simp; (try with_reducible rfl))
            (try simp only [Act.put, List.getElem_toArray, List.getElem_cons_succ, List.getElem_cons_zero, List.setIfInBounds_toArray, List.set_cons_zero, List.set_cons_succ])
            refine wpAnyH_take (i := 1) (v := ?_) rfl (by kernel_rfl) (by kernel_rfl) (by kernel_rfl) (fun _ _ _ h => h) (Or.inl ⟨by rfl, ?_⟩) (by assumption) ?_
            case refine_2 => (intro w hSw; (try dsimp only at hSw); go_simp; (try with_reducible rfl))
            (try simp only [Act.put, List.getElem_toArray, List.getElem_cons_succ, List.getElem_cons_zero, List.setIfInBounds_toArray, List.set_cons_zero, List.set_cons_succ])
            refine wpAnyH_take (i := 2) (v := ?_) rfl (by kernel_rfl) (by kernel_rfl) (by kernel_rfl) (fun _ _ _ h => h) (Or.inl ⟨by rfl, ?_⟩) (by assumption) ?_
            case refine_2 => (intro w hSw; (try dsimp only at hSw); go_simp; (try with_reducible rfl))
            (try simp only [Act.put, List.getElem_toArray, List.getElem_cons_succ, List.getElem_cons_zero, List.setIfInBounds_toArray, List.set_cons_zero, List.set_cons_succ])
            refine wpAnyH_take (i := 3) (v := ?_) rfl (by kernel_rfl) (by kernel_rfl) (by kernel_rfl) (fun _ _ _ h => h) (Or.inl ⟨by rfl, ?_⟩) (by assumption) ?_
            case refine_2 => (intro w hSw; (try dsimp only at hSw); go_simp; (try with_reducible rfl))
            (try simp only [Act.put, List.getElem_toArray, List.getElem_cons_succ, List.getElem_cons_zero, List.setIfInBounds_toArray, List.set_cons_zero, List.set_cons_succ])
            refine wpAnyH_take (i := 4) (v := ?_) rfl (by kernel_rfl) (by kernel_rfl) (by kernel_rfl) (fun _ _ _ h => h) (Or.inl ⟨by rfl, ?_⟩) (by assumption) ?_
            case refine_2 => (intro w hSw; (try dsimp only at hSw); go_simp; (try with_reducible rfl))
            (try simp only [Act.put, List.getElem_toArray, List.getElem_cons_succ, List.getElem_cons_zero, List.setIfInBounds_toArray, List.set_cons_zero, List.set_cons_succ])
            refine wpAnyH_take (i := 6) (v := ?_) rfl (by kernel_rfl) (by kernel_rfl) (by kernel_rfl) (fun _ _ _ h => h) (Or.inl ⟨by rfl, ?_⟩) (by assumption) ?_
            case refine_2 => (intro w hSw; (try dsimp only at hSw); go_simp; (try with_reducible rfl))
            (try simp only [Act.put, List.getElem_toArray, List.getElem_cons_succ, List.getElem_cons_zero, List.setIfInBounds_toArray, List.set_cons_zero, List.set_cons_succ])
            refine wpAnyH_take (i := 7) (v := ?_) rfl (by kernel_rfl) (by kernel_rfl) (by kernel_rfl) (fun _ _ _ h => h) (Or.inl ⟨by rfl, ?_⟩) (by assumption) ?_
            case refine_2 => (intro w hSw; (try dsimp only at hSw); go_simp; (try with_reducible rfl))
            (try simp only [Act.put, List.getElem_toArray, List.getElem_cons_succ, List.getElem_cons_zero, List.setIfInBounds_toArray, List.set_cons_zero, List.set_cons_succ])
            refine wpAnyH_take (i := 8) (v := ?_) rfl (by kernel_rfl) (by kernel_rfl) (by kernel_rfl) (fun _ _ _ h => h) (Or.inl ⟨by rfl, ?_⟩) (by assumption) ?_
            case refine_2 => (intro w hSw; (try dsimp only at hSw); go_simp; (try with_reducible rfl))
            (try simp only [Act.put, List.getElem_toArray, List.getElem_cons_succ, List.getElem_cons_zero, List.setIfInBounds_toArray, List.set_cons_zero, List.set_cons_succ])
            refine wpAnyH_ready (rs := [5]) (by kernel_rfl) (by simp) ?_
            refine AllReadyH.cons rfl (fun K hK => ?_) AllReadyH.nil
            go_simp
            refine hc.mono ?_
            rintro e v2 ⟨rfl, hgo⟩
            have HV2 := hideP hgo
            clear hc hcall HV c0 c1 c2
            have HV := HV2
            have c0 := HV.out.c0
            have c1 := HV.out.c1
            have c2 := HV.out.c2
            clear HV2 hgo
            refine hK.out _ _ ⟨c0, c1⟩ (fun hHeld => ?_)
            clear hK K
            refine wpAnyH_take (i := 9) (v := ?_) rfl (by kernel_rfl) (by kernel_rfl) (by kernel_rfl) (fun _ _ _ h => h) (Or.inl ⟨by rfl, ?_⟩) (by assumption) ?_
            case refine_2 => (intro w hSw; (try dsimp only at hSw); go_simp; (try with_reducible rfl))
            (try simp only [Act.put, List.getElem_toArray, List.getElem_cons_succ, List.getElem_cons_zero, List.setIfInBounds_toArray, List.set_cons_zero, List.set_cons_succ])
            refine wpAnyH_take (i := 10) (v := ?_) rfl (by kernel_rfl) (by kernel_rfl) (by kernel_rfl) (fun _ _ _ h => h) (Or.inl ⟨by rfl, ?_⟩) (by assumption) ?_
            case refine_2 => (intro w hSw; (try dsimp only at hSw); go_simp; (try with_reducible rfl))
            (try simp only [Act.put, List.getElem_toArray, List.getElem_cons_succ, List.getElem_cons_zero, List.setIfInBounds_toArray, List.set_cons_zero, List.set_cons_succ])
            refine wpAnyH_take (i := 11) (v := ?_) rfl (by kernel_rfl) (by kernel_rfl) (by kernel_rfl) (fun _ _ _ h => h) (Or.inl ⟨by rfl, ?_⟩) (by assumption) ?_
            case refine_2 => (intro w hSw; (try dsimp only at hSw); go_simp; (try with_reducible rfl))
            (try simp only [Act.put, List.getElem_toArray, List.getElem_cons_succ, List.getElem_cons_zero, List.setIfInBounds_toArray, List.set_cons_zero, List.set_cons_succ])
            refine wpAnyH_done (by kernel_rfl) ?_ _
            go_wp2_with fail
            go_quiet (fail)
            go_wp2_with fail
            have HV2 := hideP (HV.out.drewN nq)
            clear HV c0 c1 c2
            generalize v2.drewN nq = v3 at *
            have HV := HV2
            have c0 := HV.out.c0
            have c1 := HV.out.c1
            have c2 := HV.out.c2
            clear HV2
            go_quiet (fail)
            go_wp2_with fail
            have HV2 := hideP (HV.out.drewN nq)
            clear HV c0 c1 c2
            generalize v3.drewN nq = v4 at *
            have HV := HV2
            have c0 := HV.out.c0
            have c1 := HV.out.c1
            have c2 := HV.out.c2
            clear HV2
            go_quiet (fail)
            go_wp2_with fail
            have HV2 := hideP (HV.out.drewN nq)
            clear HV c0 c1 c2
            generalize v4.drewN nq = v5 at *
            have HV := HV2
            have c0 := HV.out.c0
            have c1 := HV.out.c1
            have c2 := HV.out.c2
            clear HV2
            go_roundw
            case rel => exact ⟨j + 1, by omega, by go_num, by rw [← Hr.out]; exact HV.out.rd, HV.out.bel⟩
            case measure => simp [intOf]; omega
          by_cases hD2 : D1 = 2
          · subst hD2
            have HV : Hid (RS w v p wr.heap.size 2 N1 X1 L1 C1 (fx (N1 % 4294967296) 4 ++ r)) := HV.out
            obtain ⟨g, hg⟩ : ∃ g, g = wr.heap.size := ⟨_, rfl⟩
            rw [← hg] at HV
            have c0 := HV.out.c0
            have c1 := HV.out.c1
            have c2 := HV.out.c2
            have hcall : ∀ v, RS w v p g 2 N1 X1 L1 C1 (fx (N1 % 4294967296) 4 ++ r) → Calls Try.prog 15 #[.pointer (some ⟨p, 0, none⟩)] v.drew fun ed v' => ed = .returned (.int .u32 ((N1 : Int) % 4294967296)) ∧ RS w v' p g 2 N1 X1 L1 C1 r := fun v hv => by
              have hv1 := hv.drewN 1
              obtain ⟨xp, np, cp, h1⟩ := hv1.rd
              exact (pfix4_any p np cp 0 xp _ _ h1).mono fun ed v' ⟨a1, a2⟩ => by
                rw [rFx_back (s := 4) (Nat.mod_lt _ (by omega))] at a1 a2
                exact ⟨a1, hv1.after a2⟩
            obtain ⟨Z, hZ⟩ : ∃ Z, Z = (N1 : Int) % 4294967296 := ⟨_, rfl⟩
            rw [← hZ] at hcall
            have hcv : IntKind.u32.wrap (N1 : Int) = Z := by rw [IntKind.wrap_u32, hZ]
            have hcv2 : (N1 : Int) % 4294967296 = Z := hZ.symm
            clear hZ
            go_wp2_with fail
            rw [← hv, ← hg]
            clear hv hg k0 k1 k2 k3
            go_quiet (fail)
            go_wp2_with fail
            have HV2 := hideP (HV.out.drewN nq)
            clear HV c0 c1 c2
            generalize v.drewN nq = v1 at *
            have HV := HV2
            have c0 := HV.out.c0
            have c1 := HV.out.c1
            have c2 := HV.out.c2
            clear HV2
            go_quiet (fail)
            go_wp2_with fail
            have HV2 := hideP (HV.out.drewN nq)
            clear HV c0 c1 c2
            generalize v1.drewN nq = v2 at *
            have HV := HV2
            have c0 := HV.out.c0
            have c1 := HV.out.c1
            have c2 := HV.out.c2
            clear HV2
            have hc := hcall v2 HV.out
            refine wp_region_held_drew (S := fun u => u.cell? ⟨g, 0, none⟩ = some (.int .i64 2) ∧ u.cell? ⟨g, 1, none⟩ = some (.int .u64 (N1 : Int))) (by kernel_rfl) ⟨c0, c1⟩ (fun hHeld => ?_)
            refine wpAnyH_take (i := 0) (v := ?_) rfl (by kernel_rfl) (by kernel_rfl) (by kernel_rfl) (fun _ _ _ h => h) (Or.inl ⟨by rfl, ?_⟩) (by assumption) ?_
            case refine_2 => (intro w hSw; (try dsimp only at hSw); go_simp; (try with_reducible rfl))
            (try simp only [Act.put, List.getElem_toArray, List.getElem_cons_succ, List.getElem_cons_zero, List.setIfInBounds_toArray, List.set_cons_zero, List.set_cons_succ])
            refine wpAnyH_take (i := 1) (v := ?_) rfl (by kernel_rfl) (by kernel_rfl) (by kernel_rfl) (fun _ _ _ h => h) (Or.inl ⟨by rfl, ?_⟩) (by assumption) ?_
            case refine_2 => (intro w hSw; (try dsimp only at hSw); go_simp; (try with_reducible rfl))
            (try simp only [Act.put, List.getElem_toArray, List.getElem_cons_succ, List.getElem_cons_zero, List.setIfInBounds_toArray, List.set_cons_zero, List.set_cons_succ])
            refine wpAnyH_take (i := 2) (v := ?_) rfl (by kernel_rfl) (by kernel_rfl) (by kernel_rfl) (fun _ _ _ h => h) (Or.inl ⟨by rfl, ?_⟩) (by assumption) ?_
            case refine_2 => (intro w hSw; (try dsimp only at hSw); go_simp; (try with_reducible rfl))
            (try simp only [Act.put, List.getElem_toArray, List.getElem_cons_succ, List.getElem_cons_zero, List.setIfInBounds_toArray, List.set_cons_zero, List.set_cons_succ])
            refine wpAnyH_take (i := 3) (v := ?_) rfl (by kernel_rfl) (by kernel_rfl) (by kernel_rfl) (fun _ _ _ h => h) (Or.inl ⟨by rfl, ?_⟩) (by assumption) ?_
            case refine_2 => (intro w hSw; (try dsimp only at hSw); go_simp; (try with_reducible rfl))
            (try simp only [Act.put, List.getElem_toArray, List.getElem_cons_succ, List.getElem_cons_zero, List.setIfInBounds_toArray, List.set_cons_zero, List.set_cons_succ])
            refine wpAnyH_take (i := 4) (v := ?_) rfl (by kernel_rfl) (by kernel_rfl) (by kernel_rfl) (fun _ _ _ h => h) (Or.inl ⟨by rfl, ?_⟩) (by assumption) ?_
            case refine_2 => (intro w hSw; (try dsimp only at hSw); go_simp; (try with_reducible rfl))
            (try simp only [Act.put, List.getElem_toArray, List.getElem_cons_succ, List.getElem_cons_zero, List.setIfInBounds_toArray, List.set_cons_zero, List.set_cons_succ])
            refine wpAnyH_take (i := 6) (v := ?_) rfl (by kernel_rfl) (by kernel_rfl) (by kernel_rfl) (fun _ _ _ h => h) (Or.inl ⟨by rfl, ?_⟩) (by assumption) ?_
            case refine_2 => (intro w hSw; (try dsimp only at hSw); go_simp; (try with_reducible rfl))
            (try simp only [Act.put, List.getElem_toArray, List.getElem_cons_succ, List.getElem_cons_zero, List.setIfInBounds_toArray, List.set_cons_zero, List.set_cons_succ])
            refine wpAnyH_take (i := 7) (v := ?_) rfl (by kernel_rfl) (by kernel_rfl) (by kernel_rfl) (fun _ _ _ h => h) (Or.inl ⟨by rfl, ?_⟩) (by assumption) ?_
            case refine_2 => (intro w hSw; (try dsimp only at hSw); go_simp; (try with_reducible rfl))
            (try simp only [Act.put, List.getElem_toArray, List.getElem_cons_succ, List.getElem_cons_zero, List.setIfInBounds_toArray, List.set_cons_zero, List.set_cons_succ])
            refine wpAnyH_take (i := 8) (v := ?_) rfl (by kernel_rfl) (by kernel_rfl) (by kernel_rfl) (fun _ _ _ h => h) (Or.inl ⟨by rfl, ?_⟩) (by assumption) ?_
            case refine_2 => (intro w hSw; (try dsimp only at hSw); go_simp; (try with_reducible rfl))
            (try simp only [Act.put, List.getElem_toArray, List.getElem_cons_succ, List.getElem_cons_zero, List.setIfInBounds_toArray, List.set_cons_zero, List.set_cons_succ])
            refine wpAnyH_ready (rs := [5]) (by kernel_rfl) (by simp) ?_
            refine AllReadyH.cons rfl (fun K hK => ?_) AllReadyH.nil
            go_simp
            refine hc.mono ?_
            rintro e v3 ⟨rfl, hgo⟩
            have HV2 := hideP hgo
            clear hc hcall HV c0 c1 c2
            have HV := HV2
            have c0 := HV.out.c0
            have c1 := HV.out.c1
            have c2 := HV.out.c2
            clear HV2 hgo
            refine hK.out _ _ ⟨c0, c1⟩ (fun hHeld => ?_)
            clear hK K
            refine wpAnyH_take (i := 9) (v := ?_) rfl (by kernel_rfl) (by kernel_rfl) (by kernel_rfl) (fun _ _ _ h => h) (Or.inl ⟨by rfl, ?_⟩) (by assumption) ?_
            case refine_2 => (intro w hSw; (try dsimp only at hSw); go_simp; (try with_reducible rfl))
            (try simp only [Act.put, List.getElem_toArray, List.getElem_cons_succ, List.getElem_cons_zero, List.setIfInBounds_toArray, List.set_cons_zero, List.set_cons_succ])
            refine wpAnyH_take (i := 10) (v := ?_) rfl (by kernel_rfl) (by kernel_rfl) (by kernel_rfl) (fun _ _ _ h => h) (Or.inl ⟨by rfl, ?_⟩) (by assumption) ?_
            case refine_2 => (intro w hSw; (try dsimp only at hSw); go_simp; (try with_reducible rfl))
            (try simp only [Act.put, List.getElem_toArray, List.getElem_cons_succ, List.getElem_cons_zero, List.setIfInBounds_toArray, List.set_cons_zero, List.set_cons_succ])
            refine wpAnyH_take (i := 11) (v := ?_) rfl (by kernel_rfl) (by kernel_rfl) (by kernel_rfl) (fun _ _ _ h => h) (Or.inl ⟨by rfl, ?_⟩) (by assumption) ?_
            case refine_2 => (intro w hSw; (try dsimp only at hSw); go_simp; (try with_reducible rfl))
            (try simp only [Act.put, List.getElem_toArray, List.getElem_cons_succ, List.getElem_cons_zero, List.setIfInBounds_toArray, List.set_cons_zero, List.set_cons_succ])
            refine wpAnyH_done (by kernel_rfl) ?_ _
            go_wp2_with fail
            go_quiet (fail)
            go_wp2_with fail
            have HV2 := hideP (HV.out.drewN nq)
            clear HV c0 c1 c2
            generalize v3.drewN nq = v4 at *
            have HV := HV2
            have c0 := HV.out.c0
            have c1 := HV.out.c1
            have c2 := HV.out.c2
            clear HV2
            go_quiet (fail)
            go_wp2_with fail
            have HV2 := hideP (HV.out.drewN nq)
            clear HV c0 c1 c2
            generalize v4.drewN nq = v5 at *
            have HV := HV2
            have c0 := HV.out.c0
            have c1 := HV.out.c1
            have c2 := HV.out.c2
            clear HV2
            go_roundw
            case rel => exact ⟨j + 1, by omega, by go_num, by rw [← Hr.out]; exact HV.out.rd, HV.out.bel⟩
            case measure => simp [intOf]; omega
          by_cases hD3 : D1 = 3
          · subst hD3
            have HV : Hid (RS w v p wr.heap.size 3 N1 X1 L1 C1 (fx N1 8 ++ r)) := HV.out
            obtain ⟨g, hg⟩ : ∃ g, g = wr.heap.size := ⟨_, rfl⟩
            rw [← hg] at HV
            have c0 := HV.out.c0
            have c1 := HV.out.c1
            have c2 := HV.out.c2
            have hcall : ∀ v, RS w v p g 3 N1 X1 L1 C1 (fx N1 8 ++ r) → Calls Try.prog 16 #[.pointer (some ⟨p, 0, none⟩)] v.drew fun ed v' => ed = .returned (.int .u64 (N1 : Int)) ∧ RS w v' p g 3 N1 X1 L1 C1 r := fun v hv => by
              have hv1 := hv.drewN 1
              obtain ⟨xp, np, cp, h1⟩ := hv1.rd
              exact (pfix8_any p np cp 0 xp _ _ h1).mono fun ed v' ⟨a1, a2⟩ => by
                rw [rFx_back (s := 8) hNl] at a1 a2
                exact ⟨a1, hv1.after a2⟩
            go_wp2_with fail
            rw [← hv, ← hg]
            clear hv hg k0 k1 k2 k3
            go_quiet (fail)
            go_wp2_with fail
            have HV2 := hideP (HV.out.drewN nq)
            clear HV c0 c1 c2
            generalize v.drewN nq = v1 at *
            have HV := HV2
            have c0 := HV.out.c0
            have c1 := HV.out.c1
            have c2 := HV.out.c2
            clear HV2
            go_quiet (fail)
            go_wp2_with fail
            have HV2 := hideP (HV.out.drewN nq)
            clear HV c0 c1 c2
            generalize v1.drewN nq = v2 at *
            have HV := HV2
            have c0 := HV.out.c0
            have c1 := HV.out.c1
            have c2 := HV.out.c2
            clear HV2
            go_quiet (fail)
            go_wp2_with fail
            have HV2 := hideP (HV.out.drewN nq)
            clear HV c0 c1 c2
            generalize v2.drewN nq = v3 at *
            have HV := HV2
            have c0 := HV.out.c0
            have c1 := HV.out.c1
            have c2 := HV.out.c2
            clear HV2
            have hc := hcall v3 HV.out
            refine wp_region_held_drew (S := fun u => u.cell? ⟨g, 0, none⟩ = some (.int .i64 3) ∧ u.cell? ⟨g, 1, none⟩ = some (.int .u64 (N1 : Int))) (by kernel_rfl) ⟨c0, c1⟩ (fun hHeld => ?_)
            refine wpAnyH_take (i := 0) (v := ?_) rfl (by kernel_rfl) (by kernel_rfl) (by kernel_rfl) (fun _ _ _ h => h) (Or.inl ⟨by rfl, ?_⟩) (by assumption) ?_
            case refine_2 => (intro w hSw; (try dsimp only at hSw); go_simp; (try with_reducible rfl))
            (try simp only [Act.put, List.getElem_toArray, List.getElem_cons_succ, List.getElem_cons_zero, List.setIfInBounds_toArray, List.set_cons_zero, List.set_cons_succ])
            refine wpAnyH_take (i := 1) (v := ?_) rfl (by kernel_rfl) (by kernel_rfl) (by kernel_rfl) (fun _ _ _ h => h) (Or.inl ⟨by rfl, ?_⟩) (by assumption) ?_
            case refine_2 => (intro w hSw; (try dsimp only at hSw); go_simp; (try with_reducible rfl))
            (try simp only [Act.put, List.getElem_toArray, List.getElem_cons_succ, List.getElem_cons_zero, List.setIfInBounds_toArray, List.set_cons_zero, List.set_cons_succ])
            refine wpAnyH_take (i := 2) (v := ?_) rfl (by kernel_rfl) (by kernel_rfl) (by kernel_rfl) (fun _ _ _ h => h) (Or.inl ⟨by rfl, ?_⟩) (by assumption) ?_
            case refine_2 => (intro w hSw; (try dsimp only at hSw); go_simp; (try with_reducible rfl))
            (try simp only [Act.put, List.getElem_toArray, List.getElem_cons_succ, List.getElem_cons_zero, List.setIfInBounds_toArray, List.set_cons_zero, List.set_cons_succ])
            refine wpAnyH_take (i := 3) (v := ?_) rfl (by kernel_rfl) (by kernel_rfl) (by kernel_rfl) (fun _ _ _ h => h) (Or.inl ⟨by rfl, ?_⟩) (by assumption) ?_
            case refine_2 => (intro w hSw; (try dsimp only at hSw); go_simp; (try with_reducible rfl))
            (try simp only [Act.put, List.getElem_toArray, List.getElem_cons_succ, List.getElem_cons_zero, List.setIfInBounds_toArray, List.set_cons_zero, List.set_cons_succ])
            refine wpAnyH_take (i := 4) (v := ?_) rfl (by kernel_rfl) (by kernel_rfl) (by kernel_rfl) (fun _ _ _ h => h) (Or.inl ⟨by rfl, ?_⟩) (by assumption) ?_
            case refine_2 => (intro w hSw; (try dsimp only at hSw); go_simp; (try with_reducible rfl))
            (try simp only [Act.put, List.getElem_toArray, List.getElem_cons_succ, List.getElem_cons_zero, List.setIfInBounds_toArray, List.set_cons_zero, List.set_cons_succ])
            refine wpAnyH_take (i := 6) (v := ?_) rfl (by kernel_rfl) (by kernel_rfl) (by kernel_rfl) (fun _ _ _ h => h) (Or.inl ⟨by rfl, ?_⟩) (by assumption) ?_
            case refine_2 => (intro w hSw; (try dsimp only at hSw); go_simp; (try with_reducible rfl))
            (try simp only [Act.put, List.getElem_toArray, List.getElem_cons_succ, List.getElem_cons_zero, List.setIfInBounds_toArray, List.set_cons_zero, List.set_cons_succ])
            refine wpAnyH_take (i := 7) (v := ?_) rfl (by kernel_rfl) (by kernel_rfl) (by kernel_rfl) (fun _ _ _ h => h) (Or.inl ⟨by rfl, ?_⟩) (by assumption) ?_
            case refine_2 => (intro w hSw; (try dsimp only at hSw); go_simp; (try with_reducible rfl))
            (try simp only [Act.put, List.getElem_toArray, List.getElem_cons_succ, List.getElem_cons_zero, List.setIfInBounds_toArray, List.set_cons_zero, List.set_cons_succ])
            refine wpAnyH_ready (rs := [5]) (by kernel_rfl) (by simp) ?_
            refine AllReadyH.cons rfl (fun K hK => ?_) AllReadyH.nil
            go_simp
            refine hc.mono ?_
            rintro e v4 ⟨rfl, hgo⟩
            have HV2 := hideP hgo
            clear hc hcall HV c0 c1 c2
            have HV := HV2
            have c0 := HV.out.c0
            have c1 := HV.out.c1
            have c2 := HV.out.c2
            clear HV2 hgo
            refine hK.out _ _ ⟨c0, c1⟩ (fun hHeld => ?_)
            clear hK K
            refine wpAnyH_take (i := 8) (v := ?_) rfl (by kernel_rfl) (by kernel_rfl) (by kernel_rfl) (fun _ _ _ h => h) (Or.inl ⟨by rfl, ?_⟩) (by assumption) ?_
            case refine_2 => (intro w hSw; (try dsimp only at hSw); go_simp; (try with_reducible rfl))
            (try simp only [Act.put, List.getElem_toArray, List.getElem_cons_succ, List.getElem_cons_zero, List.setIfInBounds_toArray, List.set_cons_zero, List.set_cons_succ])
            refine wpAnyH_take (i := 9) (v := ?_) rfl (by kernel_rfl) (by kernel_rfl) (by kernel_rfl) (fun _ _ _ h => h) (Or.inl ⟨by rfl, ?_⟩) (by assumption) ?_
            case refine_2 => (intro w hSw; (try dsimp only at hSw); go_simp; (try with_reducible rfl))
            (try simp only [Act.put, List.getElem_toArray, List.getElem_cons_succ, List.getElem_cons_zero, List.setIfInBounds_toArray, List.set_cons_zero, List.set_cons_succ])
            refine wpAnyH_take (i := 10) (v := ?_) rfl (by kernel_rfl) (by kernel_rfl) (by kernel_rfl) (fun _ _ _ h => h) (Or.inl ⟨by rfl, ?_⟩) (by assumption) ?_
            case refine_2 => (intro w hSw; (try dsimp only at hSw); go_simp; (try with_reducible rfl))
            (try simp only [Act.put, List.getElem_toArray, List.getElem_cons_succ, List.getElem_cons_zero, List.setIfInBounds_toArray, List.set_cons_zero, List.set_cons_succ])
            refine wpAnyH_done (by kernel_rfl) ?_ _
            go_wp2_with fail
            go_quiet (fail)
            go_wp2_with fail
            have HV2 := hideP (HV.out.drewN nq)
            clear HV c0 c1 c2
            generalize v4.drewN nq = v5 at *
            have HV := HV2
            have c0 := HV.out.c0
            have c1 := HV.out.c1
            have c2 := HV.out.c2
            clear HV2
            go_roundw
            case rel => exact ⟨j + 1, by omega, by go_num, by rw [← Hr.out]; exact HV.out.rd, HV.out.bel⟩
            case measure => simp [intOf]; omega
          by_cases hD4 : D1 = 6
          · subst hD4
            have HV : Hid (RS w v p wr.heap.size 6 N1 X1 L1 C1 (uv kl.length ++ kl ++ r)) := HV.out
            obtain ⟨g, hg⟩ : ∃ g, g = wr.heap.size := ⟨_, rfl⟩
            rw [← hg] at HV
            have c0 := HV.out.c0
            have c1 := HV.out.c1
            have c2 := HV.out.c2
            have hcall : ∀ v, RS w v p g 6 N1 X1 L1 C1 (uv kl.length ++ kl ++ r) → Calls Try.prog 17 #[.pointer (some ⟨p, 0, none⟩), .int .i64 (L1 : Int)] v.drew fun ed v' => ∃ yv kv, ed = .returned (.slice yv L1 kv) ∧ RS w v' p g 6 N1 X1 L1 C1 r ∧ Calls Try.prog 9 #[.slice yv L1 kv, .slice X1 L1 C1] v' fun e u => e = .returned (.bool true) ∧ u = v' := fun v hv => by
              have hv1 := hv.drewN 1
              obtain ⟨xp, np, cp, h1⟩ := hv1.rd
              have hlen := hsl.len
              exact (pbytes_any p np cp 0 (L1 : Int) xp _ _ h1 (by omega) (by omega)).mono fun ed v' ⟨u, a1, a2, yv, kv, a3, a4, _⟩ => by
                have hbk := rBy_back kl r (by omega)
                rw [hlen] at hbk
                have e0 : uv kl.length = uv L1 := by rw [hlen]
                rw [e0] at a2 a3 a4
                rw [hbk] at a2 a3 a4
                have hrs := hv1.after a2
                dsimp only at a3 a4
                rw [hlen] at a3 a4
                exact ⟨yv, kv, by rw [a1, a3], hrs, same_any yv X1 L1 L1 kv C1 kl kl true v' a4 (hsl.below hrs.bel) (by simp)⟩
            go_wp2_with fail
            rw [← hv, ← hg]
            clear hv hg k0 k1 k2 k3
            go_quiet (fail)
            go_wp2_with fail
            have HV2 := hideP (HV.out.drewN nq)
            clear HV c0 c1 c2
            generalize v.drewN nq = v1 at *
            have HV := HV2
            have c0 := HV.out.c0
            have c1 := HV.out.c1
            have c2 := HV.out.c2
            clear HV2
            go_quiet (fail)
            go_wp2_with fail
            have HV2 := hideP (HV.out.drewN nq)
            clear HV c0 c1 c2
            generalize v1.drewN nq = v2 at *
            have HV := HV2
            have c0 := HV.out.c0
            have c1 := HV.out.c1
            have c2 := HV.out.c2
            clear HV2
            go_quiet (fail)
            go_wp2_with fail
            have HV2 := hideP (HV.out.drewN nq)
            clear HV c0 c1 c2
            generalize v2.drewN nq = v3 at *
            have HV := HV2
            have c0 := HV.out.c0
            have c1 := HV.out.c1
            have c2 := HV.out.c2
            clear HV2
            go_quiet (fail)
            go_wp2_with fail
            have HV2 := hideP (HV.out.drewN nq)
            clear HV c0 c1 c2
            generalize v3.drewN nq = v4 at *
            have HV := HV2
            have c0 := HV.out.c0
            have c1 := HV.out.c1
            have c2 := HV.out.c2
            clear HV2
            have hc := hcall v4 HV.out
            refine wp_region_held_drew (S := fun u => u.cell? ⟨g, 0, none⟩ = some (.int .i64 6) ∧ u.cell? ⟨g, 2, none⟩ = some (.slice X1 L1 C1)) (by kernel_rfl) ⟨c0, c2⟩ (fun hHeld => ?_)
            refine wpAnyH_take (i := 0) (v := ?_) rfl (by kernel_rfl) (by kernel_rfl) (by kernel_rfl) (fun _ _ _ h => h) (Or.inl ⟨by rfl, ?_⟩) (by assumption) ?_
            case refine_2 => (intro w hSw; (try dsimp only at hSw); go_simp; (try with_reducible rfl))
            (try simp only [Act.put, List.getElem_toArray, List.getElem_cons_succ, List.getElem_cons_zero, List.setIfInBounds_toArray, List.set_cons_zero, List.set_cons_succ])
            refine wpAnyH_take (i := 1) (v := ?_) rfl (by kernel_rfl) (by kernel_rfl) (by kernel_rfl) (fun _ _ _ h => h) (Or.inl ⟨by rfl, ?_⟩) (by assumption) ?_
            case refine_2 => (intro w hSw; (try dsimp only at hSw); go_simp; (try with_reducible rfl))
            (try simp only [Act.put, List.getElem_toArray, List.getElem_cons_succ, List.getElem_cons_zero, List.setIfInBounds_toArray, List.set_cons_zero, List.set_cons_succ])
            refine wpAnyH_take (i := 2) (v := ?_) rfl (by kernel_rfl) (by kernel_rfl) (by kernel_rfl) (fun _ _ _ h => h) (Or.inl ⟨by rfl, ?_⟩) (by assumption) ?_
            case refine_2 => (intro w hSw; (try dsimp only at hSw); go_simp; (try with_reducible rfl))
            (try simp only [Act.put, List.getElem_toArray, List.getElem_cons_succ, List.getElem_cons_zero, List.setIfInBounds_toArray, List.set_cons_zero, List.set_cons_succ])
            refine wpAnyH_take (i := 3) (v := ?_) rfl (by kernel_rfl) (by kernel_rfl) (by kernel_rfl) (fun _ _ _ h => h) (Or.inl ⟨by rfl, ?_⟩) (by assumption) ?_
            case refine_2 => (intro w hSw; (try dsimp only at hSw); go_simp; (try with_reducible rfl))
            (try simp only [Act.put, List.getElem_toArray, List.getElem_cons_succ, List.getElem_cons_zero, List.setIfInBounds_toArray, List.set_cons_zero, List.set_cons_succ])
            refine wpAnyH_take (i := 4) (v := ?_) rfl (by kernel_rfl) (by kernel_rfl) (by kernel_rfl) (fun _ _ _ h => h) (Or.inl ⟨by rfl, ?_⟩) (by assumption) ?_
            case refine_2 => (intro w hSw; (try dsimp only at hSw); go_simp; (try with_reducible rfl))
            (try simp only [Act.put, List.getElem_toArray, List.getElem_cons_succ, List.getElem_cons_zero, List.setIfInBounds_toArray, List.set_cons_zero, List.set_cons_succ])
            refine wpAnyH_take (i := 5) (v := ?_) rfl (by kernel_rfl) (by kernel_rfl) (by kernel_rfl) (fun _ _ _ h => h) (Or.inl ⟨by rfl, ?_⟩) (by assumption) ?_
            case refine_2 => (intro w hSw; (try dsimp only at hSw); go_simp; (try with_reducible rfl))
            (try simp only [Act.put, List.getElem_toArray, List.getElem_cons_succ, List.getElem_cons_zero, List.setIfInBounds_toArray, List.set_cons_zero, List.set_cons_succ])
            refine wpAnyH_take (i := 6) (v := ?_) rfl (by kernel_rfl) (by kernel_rfl) (by kernel_rfl) (fun _ _ _ h => h) (Or.inl ⟨by rfl, ?_⟩) (by assumption) ?_
            case refine_2 => (intro w hSw; (try dsimp only at hSw); go_simp; (try with_reducible rfl))
            (try simp only [Act.put, List.getElem_toArray, List.getElem_cons_succ, List.getElem_cons_zero, List.setIfInBounds_toArray, List.set_cons_zero, List.set_cons_succ])
            refine wpAnyH_take (i := 7) (v := ?_) rfl (by kernel_rfl) (by kernel_rfl) (by kernel_rfl) (fun _ _ _ h => h) (Or.inl ⟨by rfl, ?_⟩) (by assumption) ?_
            case refine_2 => (intro w hSw; (try dsimp only at hSw); go_simp; (try with_reducible rfl))
            (try simp only [Act.put, List.getElem_toArray, List.getElem_cons_succ, List.getElem_cons_zero, List.setIfInBounds_toArray, List.set_cons_zero, List.set_cons_succ])
            refine wpAnyH_take (i := 9) (v := ?_) rfl (by kernel_rfl) (by kernel_rfl) (by kernel_rfl) (fun _ _ _ h => h) (Or.inl ⟨by rfl, ?_⟩) (by assumption) ?_
            case refine_2 => (intro w hSw; (try dsimp only at hSw); go_simp; (try with_reducible rfl))
            (try simp only [Act.put, List.getElem_toArray, List.getElem_cons_succ, List.getElem_cons_zero, List.setIfInBounds_toArray, List.set_cons_zero, List.set_cons_succ])
            refine wpAnyH_take (i := 10) (v := ?_) rfl (by kernel_rfl) (by kernel_rfl) (by kernel_rfl) (fun _ _ _ h => h) (Or.inl ⟨by rfl, ?_⟩) (by assumption) ?_
            case refine_2 => (intro w hSw; (try dsimp only at hSw); go_simp; (try with_reducible rfl))
            (try simp only [Act.put, List.getElem_toArray, List.getElem_cons_succ, List.getElem_cons_zero, List.setIfInBounds_toArray, List.set_cons_zero, List.set_cons_succ])
            refine wpAnyH_ready (rs := [8]) (by kernel_rfl) (by simp) ?_
            refine AllReadyH.cons rfl (fun K hK => ?_) AllReadyH.nil
            go_simp
            refine hc.mono ?_
            rintro e v5 ⟨yv, kv, rfl, hgo, hsm⟩
            have HV2 := hideP hgo
            clear hc hcall HV c0 c1 c2
            have HV := HV2
            have c0 := HV.out.c0
            have c1 := HV.out.c1
            have c2 := HV.out.c2
            clear HV2 hgo
            refine hK.out _ _ ⟨c0, c2⟩ (fun hHeld => ?_)
            clear hK K
            refine wpAnyH_ready (rs := [11]) (by kernel_rfl) (by simp) ?_
            refine AllReadyH.cons rfl (fun K hK => ?_) AllReadyH.nil
            go_simp
            refine hsm.mono ?_
            rintro e u ⟨rfl, rfl⟩
            refine hK.out _ _ ⟨c0, c2⟩ (fun hHeld => ?_)
            clear hK K
            refine wpAnyH_take (i := 12) (v := ?_) rfl (by kernel_rfl) (by kernel_rfl) (by kernel_rfl) (fun _ _ _ h => h) (Or.inl ⟨by rfl, ?_⟩) (by assumption) ?_
            case refine_2 => (intro w hSw; (try dsimp only at hSw); go_simp; (try with_reducible rfl))
            (try simp only [Act.put, List.getElem_toArray, List.getElem_cons_succ, List.getElem_cons_zero, List.setIfInBounds_toArray, List.set_cons_zero, List.set_cons_succ])
            refine wpAnyH_take (i := 13) (v := ?_) rfl (by kernel_rfl) (by kernel_rfl) (by kernel_rfl) (fun _ _ _ h => h) (Or.inl ⟨by rfl, ?_⟩) (by assumption) ?_
            case refine_2 => (intro w hSw; (try dsimp only at hSw); go_simp; (try with_reducible rfl))
            (try simp only [Act.put, List.getElem_toArray, List.getElem_cons_succ, List.getElem_cons_zero, List.setIfInBounds_toArray, List.set_cons_zero, List.set_cons_succ])
            refine wpAnyH_take (i := 14) (v := ?_) rfl (by kernel_rfl) (by kernel_rfl) (by kernel_rfl) (fun _ _ _ h => h) (Or.inl ⟨by rfl, ?_⟩) (by assumption) ?_
            case refine_2 => (intro w hSw; (try dsimp only at hSw); go_simp; (try with_reducible rfl))
            (try simp only [Act.put, List.getElem_toArray, List.getElem_cons_succ, List.getElem_cons_zero, List.setIfInBounds_toArray, List.set_cons_zero, List.set_cons_succ])
            refine wpAnyH_done (by kernel_rfl) ?_ _
            go_wp2_with fail
            go_roundw
            case rel => exact ⟨j + 1, by omega, by go_num, by rw [← Hr.out]; exact HV.out.rd, HV.out.bel⟩
            case measure => simp [intOf]; omega
          have hE : enI D1 N1 kl = [] := by unfold enI; rw [if_neg hD0, if_neg hD1, if_neg hD2, if_neg hD3, if_neg hD4]
          rw [hE, List.nil_append] at HV
          have d0 : (D1 == 0) = false := by simpa using hD0
          have d1 : (D1 == 1) = false := by simpa using hD1
          have d2 : (D1 == 2) = false := by simpa using hD2
          have d3 : (D1 == 3) = false := by simpa using hD3
          have d4 : (D1 == 6) = false := by simpa using hD4
          clear hE hD0 hD1 hD2 hD3 hD4
          obtain ⟨g, hg⟩ : ∃ g, g = wr.heap.size := ⟨_, rfl⟩
          rw [← hg] at HV
          have c0 := HV.out.c0
          have c1 := HV.out.c1
          have c2 := HV.out.c2
          go_wp2_with fail
          rw [← hv, ← hg]
          clear hv hg k0 k1 k2 k3
          go_quiet (fail)
          go_wp2_with fail
          have HV2 := hideP (HV.out.drewN nq)
          clear HV c0 c1 c2
          generalize v.drewN nq = v1 at *
          have HV := HV2
          have c0 := HV.out.c0
          have c1 := HV.out.c1
          have c2 := HV.out.c2
          clear HV2
          go_quiet (fail)
          go_wp2_with fail
          have HV2 := hideP (HV.out.drewN nq)
          clear HV c0 c1 c2
          generalize v1.drewN nq = v2 at *
          have HV := HV2
          have c0 := HV.out.c0
          have c1 := HV.out.c1
          have c2 := HV.out.c2
          clear HV2
          go_quiet (fail)
          go_wp2_with fail
          have HV2 := hideP (HV.out.drewN nq)
          clear HV c0 c1 c2
          generalize v2.drewN nq = v3 at *
          have HV := HV2
          have c0 := HV.out.c0
          have c1 := HV.out.c1
          have c2 := HV.out.c2
          clear HV2
          go_quiet (fail)
          go_wp2_with fail
          have HV2 := hideP (HV.out.drewN nq)
          clear HV c0 c1 c2
          generalize v3.drewN nq = v4 at *
          have HV := HV2
          have c0 := HV.out.c0
          have c1 := HV.out.c1
          have c2 := HV.out.c2
          clear HV2
          go_quiet (fail)
          go_wp2_with fail
          have HV2 := hideP (HV.out.drewN nq)
          clear HV c0 c1 c2
          generalize v4.drewN nq = v5 at *
          have HV := HV2
          have c0 := HV.out.c0
          have c1 := HV.out.c1
          have c2 := HV.out.c2
          clear HV2
          go_roundw
          case rel => exact ⟨j + 1, by omega, by go_num, by rw [← Hr.out]; exact HV.out.rd, HV.out.bel⟩
          case measure => simp [intOf]; omega
        · have hj2 : j = k := by omega
          subst hj2
          obtain ⟨⟨xp, np, cq, hP⟩, hb⟩ := HR.out
          rw [Nat.sub_self, rs] at hP
          have hDn := pdone_any p np cq 0 xp [] wr hP
          have HB : Hid (Below w.heap.size w wr) := hb
          clear HR hP hb
          go_wp2_with (first
            | (go_at_call 18; refine hDn.mono ?_; rintro e u ⟨rfl, rfl⟩; clear hDn)
            | (go_at_call 10; refine (awake_any _).mono ?_; rintro e w9 ⟨rfl, hb9⟩))
          go_ret
          exact ⟨rfl, HB.out.trans (hb9.mono HB.out.size)⟩

set_option maxRecDepth 100000 in
theorem lifted (os : Os) (started : os.Started) (H : Type) (enc : TypeId × Value → H) (F : Stop.Interp) :
    ReturnsInHanded {} Try.checked os 5 .any ((Rows.OpenSpec.upto Rows.wireBackSpec).pre6 enc Try.prog Try.f5 Rows.wireBackUptoRow.domain false) (((Rows.OpenSpec.upto Rows.wireBackSpec).at F).post enc Try.prog Try.f5 false true false false) := by
  refine returnsInHanded_of_cond (C := Try.checked) (s := Rows.OpenSpec.upto Rows.wireBackSpec) (k := Rows.uptoSmall) rfl own started (by kernel_rfl) Try.func5
    (OpenSpec.witness (enc := enc) (C := Try.checked) (s := Rows.OpenSpec.upto Rows.wireBackSpec) (k := Rows.uptoSmall) rfl false ⟨#[], #[.slice none 0 0], []⟩ 8 (by kernel_rfl) (by kernel_rfl) (by kernel_rfl)
      (x := ([.nil], [], [])) (by kernel_rfl) rfl (by kernel_rfl)) ?_
  intro W base args ds gs before hval0 hW _ hk0 _
  have hk : Rows.uptoBulkAll (ds ++ gs) ≤ 1048576 := of_decide_eq_true hk0
  have hval : ∀ (j : Nat) t v, Try.f5.params[j]? = some t → args[j]? = some v → Value.okWide Try.prog W .any base t v := hval0
  have hW' := hW
  obtain ⟨p, q, hA0, hV, rfl, hfz, hnd⟩ := hW
  have hA : DataW.TrodAll enc Try.prog W 0 (fun _ => true) true Try.f5.params.toList args.toList ds p := hA0
  rw [Try.params5] at hA hval
  obtain ⟨v0, vs0, d0, ds0, p0, q0, hargs, rfl, rfl, h0, r0⟩ := trodAll_cons hA
  obtain ⟨rfl, rfl, rfl⟩ := trodAll_nil r0
  obtain rfl : args = #[v0] := by cases args; simp_all
  obtain ⟨rfl, rfl⟩ := trodVars_none hV
  simp only [List.append_nil, Rows.uptoBulkAll] at hk
  have k0 := h0
  have lt0 : ∀ x ∈ p0, x.block < W.heap.size := by obtain ⟨m, hm⟩ := k0; exact DataW.trod_lt m _ _ _ hm
  have s0 : Rows.uptoBulk d0 ≤ 1048576 := by omega
  obtain ⟨b0, nn0, cc0, rfl⟩ := okWide_slice Try.underlying23 (hval 0 23 v0 rfl rfl)
  obtain ⟨fu0, hf0⟩ := h0
  obtain ⟨a0, len0, cap0, D0, N0, X0, L0, C0, F0, M0, e0, w0, m0⟩ := items_in_upto hf0 s0
  simp [Value.cells] at e0
  obtain ⟨rfl, rfl, rfl⟩ := e0
  clear hA0 hval0
  refine (walk b0 nn0 cc0 D0 N0 X0 L0 C0 F0 M0 W w0 m0).mono fun e W' ⟨he, bel⟩ => ?_
  subst he
  exact ⟨_, rfl, _, _, _, [], _, [], hW', trodAll_mk1 (shut_bool Try.underlying4 _), (trodAll_cons_mk (Below.trod laidOut (by kernel_rfl) (of_decide_eq_true (by kernel_rfl)) k0 bel lt0) trodAll_mk0), rfl, bel.frame _, fun h => by cases h⟩

theorem over : Rows.wireBackUptoRow.holds Try.pinned (Rows.OpenSpec.upto Rows.wireBackSpec) :=
  OpenClaim.holds_of_cond 5 Try.f5 rfl rfl rfl rfl rfl rfl rfl ⟨rfl, rfl, rfl, rfl, rfl⟩ rfl rfl rfl rfl rfl (by kernel_rfl) Try.func5 (by kernel_rfl)
    (of_decide_eq_true (by kernel_rfl)) (by unfold Func.isWrapper; first | (rw [if_pos (by decide +kernel)]; kernel_rfl) | (rw [if_neg (by decide +kernel)]; exact ⟨rfl, rfl⟩))
    (fun os started H enc _ F => lifted os started H enc F)

theorem proved : Rows.WireBackUptoSaid := over
#print axioms proved
end Go.Proofs.Ytjodeceaogngfaa.wireBack
