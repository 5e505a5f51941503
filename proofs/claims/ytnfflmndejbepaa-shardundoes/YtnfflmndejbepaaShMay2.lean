/-
  undosMay.
  Conditions: the lists lie in memory.
-/
import Derived.Test.YtnfflmndejbepaaJShMayP
namespace Go.Proofs.Ytnfflmndejbepaa.Sh
set_option linter.unusedSectionVars false
variable [Inhabited DZ]
open Go.RowKit By Fl
set_option linter.unusedVariables false
set_option linter.unusedSimpArgs false
set_option maxRecDepth 100000

theorem eelem_row : Try.prog.underlying 23 = some (.slice (Try.prog.elem 23)) := by kernel_rfl
theorem eelem_is : Try.prog.elem 23 = 67 := by kernel_rfl
theorem esize (w : World) : (sizeOf 67).run Try.prog w = .ok 7 w := by kernel_rfl

theorem ecut_from (x : Option Addr) (n c k : Nat) (w : World) (h : k ≤ n) :
    (Instr.slice 23 (.slice x n c) (some (.int .i64 (k : Int))) none none).run Try.prog w = .ok (.slice (cutO 7 x c k) (n - k) (c - k)) w := by
  rw [run_slice_l w 23 _ _ _ eelem_row .i64 (k : Int) (by omega) (by omega), eelem_is, esize]
  simp only [Result.andThen, sliced, Int.toNat_natCast]
  rfl

def zCV : CV := ⟨0, none, 0, 0, [], 0⟩
theorem zCV_at (w : World) (F : Nat → Prop) : CAt w F zCV := SlF.nil w F
theorem zCV_is : pC zCV = zC := rfl

/- The first k of them. -/
def UPre (U : List Und) (L : List Ent) (k : Nat) : Prop := ∀ (i : Nat) (u : Und) (e : Ent), i < k → U[i]? = some u → L[i]? = some e → okU u e
theorem uok_is {U : List Und} {L : List Ent} (h : U.length ≤ L.length) : UOk U L ↔ UPre U (L.drop (L.length - U.length)) U.length := by
  unfold UOk UPre
  constructor
  · intro h1 i u e _ hu he
    rw [List.getElem?_drop] at he
    exact h1 i u e hu he
  · intro h1 i u e hu he
    exact h1 i u e (List.getElem?_eq_some_iff.1 hu).1 hu (by rw [List.getElem?_drop]; exact he)
theorem upre_step {U : List Und} {L : List Ent} {k : Nat} {u : Und} {e : Ent} (hu : U[k]? = some u) (he : L[k]? = some e) (h : UPre U L k) (h1 : okU u e) : UPre U L (k + 1) := fun i v f hi hv hf => by
  by_cases e1 : i = k
  · subst e1
    rw [hu] at hv
    rw [he] at hf
    injection hv with hv
    injection hf with hf
    subst hv hf
    exact h1
  · exact h i v f (by omega) hv hf

theorem okU_is {u : UV} {e : Ent} {v0 v1 tC tS : Bool} (h0 : (u.seq == e.seq) = v0) (h1 : (u.nm.toList == e.nm.toList) = v1) (hC : tC = bz (okC (pC u.was))) (hS : tS = bz (pC u.was = zC)) :
    (v0 && v1 && tC && (u.has || tS)) = true ↔ okU (pU u) e := by
  rw [← h0, ← h1, hC, hS, str_eq]
  unfold okU pU
  simp only [Bool.and_eq_true, Bool.or_eq_true, beq_iff_eq, decide_eq_true_eq, and_assoc]
  constructor
  · rintro ⟨a, b, c, d⟩
    exact ⟨a, b, bz_of c, fun h => by rcases d with d | d; rw [h] at d; cases d; exact bz_of d⟩
  · rintro ⟨a, b, c, d⟩
    refine ⟨a, b, bz_true c, ?_⟩
    cases hh : u.has with
    | true => exact .inl rfl
    | false => exact .inr (bz_true (d hh))

set_option maxHeartbeats 3200000 in
theorem undosMay_any {w : World} {F G : Nat → Prop} {x y : Option Addr} {n c m d : Nat} {U : List UV} {L : List Ent} (hu : Us w F x n c U) (he : Es w G y m d L) (hnm : n ≤ m) :
    Calls Try.prog 48 #[.slice x n c, .slice y m d] w fun e w' => e = .returned (.bool (bz (UOk (U.map pU) L))) ∧ Below w.heap.size w w' := by
  have hl1 := hu.len
  have hl2 := he.len
  have hn := hu.small
  have hm := he.small
  obtain ⟨k0, hk0⟩ : ∃ k0, k0 = m - n := ⟨_, rfl⟩
  have HD := hid (Lis.drop he k0 (by omega))
  have hcut := fun W => ecut_from y m d k0 W (by omega)
  have hsub : (m : Int) - (n : Int) = (k0 : Int) := by omega
  have hnk : m - k0 = n := by omega
  rw [hnk] at hcut HD
  have HU := hid (uok_is (U := U.map pU) (L := L) (by rw [List.length_map]; omega))
  rw [List.length_map, hl1, hl2, ← hk0] at HU
  have HT : Hid (UOk (U.map pU) L → bz (UOk (U.map pU) L) = true) := hid bz_true
  have HF : Hid (¬ UOk (U.map pU) L → bz (UOk (U.map pU) L) = false) := hid bz_false
  have HA := hid hu
  generalize bz (UOk (U.map pU) L) = R at *
  generalize cutO 7 y d k0 = y' at *
  generalize d - k0 = d' at *
  generalize L.drop k0 = L' at *
  have hnm' : ¬ (m : Int) < (n : Int) := by omega
  clear hu he hl1 hl2 hk0 hnk
  go_enter Try.func48, Try.ntmps48
  go_wp2_with (simp only [hcut])
  go_loopw [21] (fun i wr => ∃ k : Nat, k ≤ n ∧ i = .int .i64 k ∧ Hid (Below w.heap.size w wr ∧ UPre (U.map pU) L' k)) (fun i _ => n - (intOf i).toNat)
  case atStart => exact ⟨0, by omega, rfl, Below.refl _ _, fun i u e hi => by omega⟩
  case round =>
    obtain ⟨k, hk, rfl, HR⟩ := hrel
    by_cases hlt : k < n
    · have hkn : (k : Int) < (n : Int) := by omega
      obtain ⟨ea, ha1, hm1⟩ := Lis.some HD.out hlt
      obtain ⟨ub, ha2, hm2⟩ := Lis.some HA.out hlt
      have A2 := hid (HA.out.each ub hm2)
      rcases HD.out.row with h0 | ⟨b1, o1, rfl, hb1, _, hc1⟩
      · omega
      rcases HA.out.row with h0 | ⟨b2, o2, rfl, hb2, _, hc2⟩
      · omega
      obtain ⟨k0, k1, k2, k3, k4, k5, k6⟩ := e_at hc1 ha1
      obtain ⟨l0, l1, l2, l3, l4, l5⟩ := u_at hc2 ha2
      have hbw := HR.out.1
      have HY : Hid ((U.map pU)[k]? = some (pU ub) ∧ L'[k]? = some ea) := hid ⟨map_get ha2, ha1⟩
      have bE := al wr (.cells #[.int .i64 ea.seq, .int .i64 ea.cl, .int .i64 ea.ks, .string ea.nm, .int .i64 ea.code, .bool ea.gone, .int .i64 ea.sz] 67)
      obtain ⟨w1, hw1⟩ : ∃ w1, w1 = (wr.alloc (.cells #[.int .i64 ea.seq, .int .i64 ea.cl, .int .i64 ea.ks, .string ea.nm, .int .i64 ea.code, .bool ea.gone, .int .i64 ea.sz] 67)).alloc (.cells #[.int .i64 ub.seq, .string ub.nm, .bool ub.has, .int .i64 ub.was.sz, .slice ub.was.x ub.was.n ub.was.c, .int .u32 ub.was.sum] 89) := ⟨_, rfl⟩
      have bW : Below wr.heap.size wr w1 := by rw [hw1]; exact on (al _ _) (al _ _)
      have HB := hid (on hbw bW)
      replace k0 := keep hbw k0
      replace k1 := keep hbw k1
      replace k2 := keep hbw k2
      replace k3 := keep hbw k3
      replace k4 := keep hbw k4
      replace k5 := keep hbw k5
      replace k6 := keep hbw k6
      replace l0 := keep bE (keep hbw l0)
      replace l1 := keep bE (keep hbw l1)
      replace l2 := keep bE (keep hbw l2)
      replace l3 := keep bE (keep hbw l3)
      replace l4 := keep bE (keep hbw l4)
      replace l5 := keep bE (keep hbw l5)
      have HC : Hid (∀ W, Below w1.heap.size w1 W → Calls Try.prog 60 #[vC ub.was] W fun e w' => e = .returned (.bool (bz (okC (pC ub.was)))) ∧ Below W.heap.size W w') := fun W hW => chunkmay_any (CAt.below A2.out.2 (on HB.out hW))
      have HS : Hid (∀ W, Below w1.heap.size w1 W → Calls Try.prog 76 #[vC ub.was, vC zCV] W fun e w' => e = .returned (.bool (bz (pC ub.was = zC))) ∧ Below W.heap.size W w') := fun W hW => sameChunk_any (CAt.below A2.out.2 (on HB.out hW)) (zCV_at W F)
      have HP : Hid (∀ W, Below w1.heap.size w1 W → W.cell? ⟨wr.heap.size + 1, 2, none⟩ = some (.bool ub.has) ∧ W.cell? ⟨wr.heap.size + 1, 3, none⟩ = some (.int .i64 ub.was.sz) ∧ W.cell? ⟨wr.heap.size + 1, 4, none⟩ = some (.slice ub.was.x ub.was.n ub.was.c) ∧ W.cell? ⟨wr.heap.size + 1, 5, none⟩ = some (.int .u32 ub.was.sum)) := fun W hW =>
        ⟨keep hW (by rw [hw1]; go_simp), keep hW (by rw [hw1]; go_simp), keep hW (by rw [hw1]; go_simp), keep hW (by rw [hw1]; go_simp)⟩
      have HWW := hid hw1
      obtain ⟨tC, htC⟩ : ∃ t, t = bz (okC (pC ub.was)) := ⟨_, rfl⟩
      obtain ⟨tS, htS⟩ : ∃ t, t = bz (pC ub.was = zC) := ⟨_, rfl⟩
      obtain ⟨v0, hv0⟩ : ∃ t, (ub.seq == ea.seq) = t := ⟨_, rfl⟩
      obtain ⟨v1, hv1⟩ : ∃ t, (ub.nm.toList == ea.nm.toList) = t := ⟨_, rfl⟩
      have HE := hid (okU_is hv0 hv1 htC htS)
      rw [← htC] at HC
      rw [← htS] at HS
      have hw0 : (ub.seq != ea.seq) = !v0 := by unfold bne; rw [hv0]
      have hw1' : (ub.nm.toList != ea.nm.toList) = !v1 := by unfold bne; rw [hv1]
      clear hc1 hc2 ha1 ha2 hm1 hm2 hb1 hb2 hbw htC htS hw1 bW bE
      obtain ⟨f0, f1, f2, f3, f4, f5, f6⟩ := ea
      obtain ⟨sq, nm, ha, sz, x, m', c', dat, sum⟩ := ub
      unfold vC at HC
      unfold vC zCV at HS
      dsimp only at *
      cases v0 with
      | false =>
        simp only [Bool.not_false] at hw0
        go_wp2_with fail
        go_ret
        exact ⟨by rw [HF.out fun h => by have := HE.out.2 (HU.out.1 h k _ _ hlt HY.out.1 HY.out.2); simp at this]; rfl, by have := HB.out; rw [HWW.out] at this; exact this⟩
      | true =>
        simp only [Bool.not_true] at hw0
        cases v1 with
        | false =>
          simp only [Bool.not_false] at hw1'
          go_wp2_with fail
          go_ret
          exact ⟨by rw [HF.out fun h => by have := HE.out.2 (HU.out.1 h k _ _ hlt HY.out.1 HY.out.2); simp at this]; rfl, by have := HB.out; rw [HWW.out] at this; exact this⟩
        | true =>
          simp only [Bool.not_true] at hw1'
          have hC0 := HC.out _ (Below.refl _ w1)
          rw [HWW.out] at hC0
          cases tC with
          | false =>
            go_wp2_with (go_at_call 60; refine hC0.mono ?_; rintro e w2 ⟨rfl, hb2⟩; rw [← HWW.out] at hb2)
            go_ret
            exact ⟨by rw [HF.out fun h => by have := HE.out.2 (HU.out.1 h k _ _ hlt HY.out.1 HY.out.2); simp at this]; rfl, on HB.out hb2⟩
          | true =>
            cases ha with
            | true =>
              go_wp2_with (go_at_call 60; refine hC0.mono ?_; rintro e w2 ⟨rfl, hb2⟩; clear hC0; rw [← HWW.out] at hb2; obtain ⟨q2, q3, q4, q5⟩ := HP.out w2 hb2)
              go_roundw
              case rel => exact ⟨k + 1, by omega, by go_num, on HB.out hb2, upre_step HY.out.1 HY.out.2 HR.out.2 (HE.out.1 (by simp))⟩
              case measure => simp [intOf]; omega
            | false =>
              cases tS with
              | true =>
                go_wp2_with (first
                  | (go_at_call 60; refine hC0.mono ?_; rintro e w2 ⟨rfl, hb2⟩; clear hC0; rw [← HWW.out] at hb2; obtain ⟨q2, q3, q4, q5⟩ := HP.out w2 hb2; have hS0 := HS.out w2 hb2)
                  | (go_at_call 76; refine hS0.mono ?_; rintro e w3 ⟨rfl, hb3⟩))
                go_roundw
                case rel => exact ⟨k + 1, by omega, by go_num, on HB.out (on hb2 hb3), upre_step HY.out.1 HY.out.2 HR.out.2 (HE.out.1 (by simp))⟩
                case measure => simp [intOf]; omega
              | false =>
                go_wp2_with (first
                  | (go_at_call 60; refine hC0.mono ?_; rintro e w2 ⟨rfl, hb2⟩; clear hC0; rw [← HWW.out] at hb2; obtain ⟨q2, q3, q4, q5⟩ := HP.out w2 hb2; have hS0 := HS.out w2 hb2)
                  | (go_at_call 76; refine hS0.mono ?_; rintro e w3 ⟨rfl, hb3⟩))
                go_ret
                exact ⟨by rw [HF.out fun h => by have := HE.out.2 (HU.out.1 h k _ _ hlt HY.out.1 HY.out.2); simp at this]; rfl, on HB.out (on hb2 hb3)⟩
    · have hk2 : n = k := by omega
      subst hk2
      go_wp2_with fail
      go_ret
      exact ⟨by rw [HT.out (HU.out.2 HR.out.2)]; rfl, HR.out.1⟩

theorem undosMay_no {w : World} {x y : Option Addr} {n c m d : Nat} (hnm : m < n) : Calls Try.prog 48 #[.slice x n c, .slice y m d] w fun e w' => e = .returned (.bool false) ∧ Below w.heap.size w w' := by
  have h : (m : Int) < (n : Int) := by omega
  go_enter Try.func48, Try.ntmps48
  go_wp2_with fail
  go_ret
  exact ⟨rfl, Below.refl _ _⟩

end Go.Proofs.Ytnfflmndejbepaa.Sh
