/-
  nextMay and Check.
  Conditions: what they are handed lies in memory.
-/
import Derived.Test.YtnfflmndejbepaaShMay3
namespace Go.Proofs.Ytnfflmndejbepaa.Sh
set_option linter.unusedSectionVars false
variable [Inhabited DZ]
open Go.RowKit By Fl
set_option linter.unusedVariables false
set_option linter.unusedSimpArgs false
set_option maxRecDepth 100000

/- A box that holds a holder. -/
structure HFacts (w1 : World) (p : Nat) (v : HV) (W : World) : Prop where
  b : Below w1.heap.size w1 W
  c0 : W.cell? ⟨p, 0, none⟩ = some (.int .i64 v.fe)
  c1 : W.cell? ⟨p, 1, none⟩ = some (.int .i64 v.now.pl)
  c2 : W.cell? ⟨p, 2, none⟩ = some (.int .i64 v.now.si)
  c3 : W.cell? ⟨p, 3, none⟩ = some (.slice v.now.x1 v.now.n1 v.now.c1)
  c4 : W.cell? ⟨p, 4, none⟩ = some (.slice v.now.x2 v.now.n2 v.now.c2)
  c5 : W.cell? ⟨p, 5, none⟩ = some (.slice v.now.x3 v.now.n3 v.now.c3)
  c6 : W.cell? ⟨p, 6, none⟩ = some (.slice v.x v.n v.c)
theorem HFacts.below {w1 W W' : World} {p : Nat} {v : HV} (h : HFacts w1 p v W) (k : Below W.heap.size W W') : HFacts w1 p v W' := ⟨on h.b k, keep k h.c0, keep k h.c1, keep k h.c2, keep k h.c3, keep k h.c4, keep k h.c5, keep k h.c6⟩
theorem HFacts.new (w : World) (v : HV) : HFacts (w.alloc (.cells (HCells v) 29)) w.heap.size v (w.alloc (.cells (HCells v) 29)) := by
  refine ⟨Below.refl _ _, ?_, ?_, ?_, ?_, ?_, ?_, ?_⟩ <;> unfold HCells <;> go_simp

theorem okS_b {s : Shd} (h : okS s) : 0 ≤ s.si ∧ s.si ≤ 1048576 := by
  rcases h with h | h
  · rw [h.1]; omega
  · have := h.2.1; omega

theorem nxt_succ (L : List Shd) (s0 : Int) (j : Nat) : nxt L s0 (j + 1) = (L[j]?.map (·.si)).getD 0 := rfl

theorem nxt_b {L : List Shd} {s0 fe : Int} {k : Nat} (h0 : 0 ≤ s0 ∧ s0 ≤ 1048576) (h : Nexts s0 (L.take k) fe) (hk : k ≤ L.length) : 0 ≤ nxt L s0 k ∧ nxt L s0 k ≤ 1048576 := by
  cases k with
  | zero => exact h0
  | succ j =>
    obtain ⟨s, hs⟩ : ∃ s, L[j]? = some s := ⟨_, List.getElem?_eq_getElem (by omega)⟩
    have := okS_b ((nexts_take hs).1 h).2.2.2
    rw [nxt_succ, hs]
    exact this

set_option maxHeartbeats 3200000 in
theorem nextMay_any {w : World} {F : Nat → Prop} {v : HV} (h : HAt w F v) (hs : 0 ≤ v.now.si ∧ v.now.si ≤ 1048576) :
    Calls Try.prog 43 #[vH v] w fun e w' => e = .returned (.bool (bz (v.N.length ≤ 64 ∧ Nexts v.now.si (v.N.map pS) v.fe))) ∧ Below w.heap.size w w' := by
  obtain ⟨w1, hw1⟩ : ∃ w1, w1 = w.alloc (.cells (HCells v) 29) := ⟨_, rfl⟩
  have bb : Below w.heap.size w w1 := by rw [hw1]; exact al _ _
  have hF : HFacts w1 w.heap.size v w1 := by rw [hw1]; exact HFacts.new w v
  have HA := hid h.n
  have hl := h.n.len
  have hsm := h.n.small
  obtain ⟨R, hR⟩ : ∃ R, R = bz (v.N.length ≤ 64 ∧ Nexts v.now.si (v.N.map pS) v.fe) := ⟨_, rfl⟩
  rw [← hR]
  have HT : Hid (v.n ≤ 64 → Nexts v.now.si (v.N.map pS) v.fe → R = true) := fun h1 h2 => by rw [hR]; exact bz_true ⟨by omega, h2⟩
  have HF : Hid (¬ Nexts v.now.si (v.N.map pS) v.fe → R = false) := fun h1 => by rw [hR]; exact bz_false fun h => h1 h.2
  have HF0 : Hid (¬ v.n ≤ 64 → R = false) := fun h1 => by rw [hR]; exact bz_false fun h => h1 (by have := h.1; omega)
  have HB := hid bb
  have HL := hid hl
  have HS := hid hs
  clear hR h bb hl hs
  obtain ⟨fe, ⟨pl, si, x1, n1, c1, I, x2, n2, c2, E, x3, n3, c3, U⟩, x, n, c, L⟩ := v
  unfold vH
  obtain ⟨_, f0, f1, f2, f3, f4, f5, f6⟩ := id hF
  unfold HCells at hw1
  dsimp only at *
  have HFF := hid hF
  clear hF
  subst hw1
  by_cases h64 : n ≤ 64
  · have h64' : ¬ (64 : Int) < (n : Int) := by omega
    go_enter Try.func43, Try.ntmps43
    go_wp2_with fail
    go_loopw [16, 3] (fun i a wr => ∃ k : Nat, ∃ z : Int, k ≤ n ∧ i = .int .i64 k ∧ a = .int .i64 z ∧ Hid (HFacts (w.alloc (.cells #[.int .i64 fe, .int .i64 pl, .int .i64 si, .slice x1 n1 c1, .slice x2 n2 c2, .slice x3 n3 c3, .slice x n c] 29)) w.heap.size ⟨fe, ⟨pl, si, x1, n1, c1, I, x2, n2, c2, E, x3, n3, c3, U⟩, x, n, c, L⟩ wr ∧ z = nxt (L.map pS) si k ∧ Nexts si ((L.map pS).take k) fe)) (fun i _ _ => n - (intOf i).toNat)
    case atStart => exact ⟨0, si, by omega, rfl, rfl, HFF.out, rfl, trivial⟩
    case round =>
      obtain ⟨k, z, hk, rfl, rfl, HR⟩ := hrel
      by_cases hlt : k < n
      · have hkn : (k : Int) < (n : Int) := by omega
        obtain ⟨ea, ha1, hm1⟩ := Lis.some HA.out hlt
        have A1 := hid (HA.out.each ea hm1)
        rcases HA.out.row with h0 | ⟨b1, o1, rfl, hb1, _, hc1⟩
        · omega
        obtain ⟨k0, k1, k2, k3, k4⟩ := s_at hc1 ha1
        have hbw := on HB.out HR.out.1.b
        have hfe := HR.out.1.c0
        dsimp only at hfe
        have HY : Hid ((L.map pS)[k]? = some (pS ea)) := hid (map_get ha1)
        have hz := nxt_b HS.out HR.out.2.2 (by rw [List.length_map]; have := HL.out; omega)
        rw [← HR.out.2.1] at hz
        have hwr : IntKind.i64.wrap (z + 1) = z + 1 := by rw [IntKind.wrap_i64]; omega
        obtain ⟨w2, hw2⟩ : ∃ w2, w2 = wr.alloc (.cells (SCells ea) 26) := ⟨_, rfl⟩
        have bW : Below wr.heap.size wr w2 := by rw [hw2]; exact al _ _
        have hC := within_any ea.si (z + 1) fe w2
        obtain ⟨tW, htW⟩ : ∃ t, t = decide (z + 1 ≤ ea.si ∧ ea.si ≤ fe) := ⟨_, rfl⟩
        rw [← htW] at hC
        have hD := checkShard_any (SAt.below A1.out (on hbw bW))
        obtain ⟨tS, htS⟩ : ∃ t, t = bz (okS (pS ea)) := ⟨_, rfl⟩
        rw [← htS] at hD
        have hG : SFacts w2 wr.heap.size ea w2 := by rw [hw2]; exact SFacts.new wr ea
        have HE : Hid ((tW && tS) = true ↔ (nxt (L.map pS) si k < (pS ea).si ∧ (pS ea).si ≤ fe ∧ okS (pS ea))) := by
          refine hid ?_
          rw [← HR.out.2.1, htW, htS]
          simp only [Bool.and_eq_true, decide_eq_true_eq]
          exact ⟨fun ⟨a, b⟩ => ⟨by show z < ea.si; omega, a.2, bz_of b⟩, fun ⟨a, b, c⟩ => ⟨⟨by have : z < ea.si := a; omega, b⟩, bz_true c⟩⟩
        have HN : Hid (nxt (L.map pS) si (k + 1) = ea.si) := hid (by rw [nxt_succ, HY.out]; rfl)
        have HG := hid hG
        have HBW := hid bW
        have HH := hid hbw
        replace k0 := keep hbw k0
        replace k1 := keep hbw k1
        replace k2 := keep hbw k2
        replace k3 := keep hbw k3
        replace k4 := keep hbw k4
        have HW2 := hid hw2
        obtain ⟨_, g0, g1, g2, g3, g4⟩ := id hG
        have q0 := keep bW hfe
        have eT : er true = 0 := rfl
        have eF : er false = 1 := rfl
        clear hc1 ha1 hm1 hb1 hbw htW htS bW hz hG
        obtain ⟨pl', si', y1, m1, d1, I', y2, m2, d2, E', y3, m3, d3, U'⟩ := ea
        unfold vS at hD
        unfold SCells at hw2 HW2
        dsimp only at *
        subst hw2
        cases tW with
        | false =>
          go_wp2_with (go_at_call 42; refine hC.mono ?_; rintro e w3 ⟨rfl, hw⟩; subst w3)
          go_ret
          exact ⟨by rw [HF.out (nexts_no HY.out fun h => by have := HE.out.2 h; simp at this)]; rfl, on HH.out HBW.out⟩
        | true =>
          cases tS with
          | false =>
            go_wp2_with (first
              | (go_at_call 42; refine hC.mono ?_; rintro e w3 ⟨rfl, hw⟩; subst w3)
              | (go_at_call 16; refine hD.mono ?_; rintro e w3 ⟨rfl, hb3⟩))
            go_ret
            exact ⟨by rw [HF.out (nexts_no HY.out fun h => by have := HE.out.2 h; simp at this)]; rfl, on (on HH.out HBW.out) hb3⟩
          | true =>
            go_wp2_with (first
              | (go_at_call 42; refine hC.mono ?_; rintro e w3 ⟨rfl, hw⟩; subst w3)
              | (go_at_call 16; refine hD.mono ?_; rintro e w3 ⟨rfl, hb3⟩; have v1 := keep hb3 g1))
            go_roundw
            case rel => exact ⟨k + 1, si', by omega, by go_num, rfl, (HR.out.1.below HBW.out).below hb3, HN.out.symm, (nexts_take HY.out).2 ⟨HR.out.2.2, HE.out.1 (by simp)⟩⟩
            case measure => simp [intOf]; omega
      · have hk2 : n = k := by omega
        subst hk2
        go_wp2_with fail
        go_ret
        exact ⟨by rw [HT.out h64 (by have := HR.out.2.2; rwa [List.take_of_length_le (by rw [List.length_map]; have := HL.out; omega)] at this)]; rfl, on HB.out HR.out.1.b⟩
  · have h64' : (64 : Int) < (n : Int) := by omega
    go_enter Try.func43, Try.ntmps43
    go_wp2_with fail
    go_ret
    exact ⟨by rw [HF0.out h64]; rfl, HB.out⟩

set_option maxHeartbeats 3200000 in
theorem check_any {w : World} {F : Nat → Prop} {v : HV} (h : HAt w F v) : Calls Try.prog 13 #[vH v] w fun e w' => e = .returned (.int .i64 (er (bz (okH (pH v))))) ∧ Below w.heap.size w w' := by
  obtain ⟨w1, hw1⟩ : ∃ w1, w1 = w.alloc (.cells (HCells v) 29) := ⟨_, rfl⟩
  have bb : Below w.heap.size w w1 := by rw [hw1]; exact al _ _
  have hF : HFacts w1 w.heap.size v w1 := by rw [hw1]; exact HFacts.new w v
  obtain ⟨R, hR⟩ : ∃ R, R = bz (okH (pH v)) := ⟨_, rfl⟩
  rw [← hR]
  obtain ⟨tW, htW⟩ : ∃ t, t = decide ((0 : Int) ≤ v.fe ∧ v.fe ≤ 1048576) := ⟨_, rfl⟩
  obtain ⟨tS, htS⟩ : ∃ t, t = bz (okS (pS v.now)) := ⟨_, rfl⟩
  have HC := hid fun W => within_any v.fe 0 1048576 W
  rw [← htW] at HC
  have hD := checkShard_any (h.s.below bb)
  rw [← htS] at hD
  have HN : Hid (tS = true → v.now.si ≤ v.fe → ∀ W, Below w1.heap.size w1 W → Calls Try.prog 43 #[vH v] W fun e w' => e = .returned (.bool (bz (v.N.length ≤ 64 ∧ Nexts v.now.si (v.N.map pS) v.fe))) ∧ Below W.heap.size W w') := fun h1 h2 W hW =>
    nextMay_any (h.below (on bb hW)) (okS_b (s := pS v.now) (by rw [htS] at h1; exact bz_of h1))
  have HT : Hid (R = (tW && tS && decide (v.now.si ≤ v.fe) && bz (v.N.length ≤ 64 ∧ Nexts v.now.si (v.N.map pS) v.fe))) := by
    refine hid ?_
    rw [hR, htW, htS]
    refine bz_eq ?_
    unfold okH pH
    simp only [Bool.and_eq_true, decide_eq_true_eq, List.length_map]
    exact ⟨fun ⟨⟨⟨a, b⟩, c⟩, d⟩ => ⟨a, bz_of b, c, bz_of d⟩, fun ⟨a, b, c, d⟩ => ⟨⟨⟨a, bz_true b⟩, c⟩, bz_true d⟩⟩
  obtain ⟨tN, htN⟩ : ∃ t, t = bz (v.N.length ≤ 64 ∧ Nexts v.now.si (v.N.map pS) v.fe) := ⟨_, rfl⟩
  rw [← htN] at HN HT
  have HB := hid bb
  have eT : er true = 0 := rfl
  have eF : er false = 1 := rfl
  clear hR h bb htW htS htN
  obtain ⟨fe, ⟨pl, si, x1, n1, c1, I, x2, n2, c2, E, x3, n3, c3, U⟩, x, n, c, L⟩ := v
  unfold vH at HN ⊢
  unfold vS at hD
  obtain ⟨_, f0, f1, f2, f3, f4, f5, f6⟩ := id hF
  unfold HCells at hw1
  dsimp only at *
  subst hw1
  cases tW with
  | false =>
    go_enter Try.func13, Try.ntmps13
    go_wp2_with (go_at_call 42; refine (HC.out _).mono ?_; rintro e w3 ⟨rfl, hw⟩; subst w3)
    go_ret
    exact ⟨by rw [HT.out]; rfl, HB.out⟩
  | true =>
    cases tS with
    | false =>
      go_enter Try.func13, Try.ntmps13
      go_wp2_with (first
        | (go_at_call 42; refine (HC.out _).mono ?_; rintro e w3 ⟨rfl, hw⟩; subst w3)
        | (go_at_call 16; refine hD.mono ?_; rintro e w3 ⟨rfl, hb3⟩))
      go_ret
      exact ⟨by rw [HT.out]; rfl, on HB.out hb3⟩
    | true =>
      by_cases hsf : si ≤ fe
      · have hsf' : ¬ fe < si := by omega
        have hN := HN.out rfl hsf
        have HN2 := hid hN
        have HD : Hid (decide (si ≤ fe) = true) := hid (by simpa using hsf)
        clear hN
        cases tN
        all_goals
          go_enter Try.func13, Try.ntmps13
          go_wp2_with (first
            | (go_at_call 42; refine (HC.out _).mono ?_; rintro e w3 ⟨rfl, hw⟩; subst w3)
            | (go_at_call 16; refine hD.mono ?_; rintro e w3 ⟨rfl, hb3⟩; clear hD; obtain ⟨_, q0, q1, q2, q3, q4, q5, q6⟩ := hF.below hb3)
            | (go_at_call 43; refine (HN2.out _ hb3).mono ?_; rintro e w4 ⟨rfl, hb4⟩))
          go_ret
          exact ⟨by rw [HT.out, HD.out]; rfl, on (on HB.out hb3) hb4⟩
      · have hsf' : fe < si := by omega
        have HD : Hid (decide (si ≤ fe) = false) := hid (by simpa using hsf')
        go_enter Try.func13, Try.ntmps13
        go_wp2_with (first
          | (go_at_call 42; refine (HC.out _).mono ?_; rintro e w3 ⟨rfl, hw⟩; subst w3)
          | (go_at_call 16; refine hD.mono ?_; rintro e w3 ⟨rfl, hb3⟩; clear hD; obtain ⟨_, q0, q1, q2, q3, q4, q5, q6⟩ := hF.below hb3))
        go_ret
        exact ⟨by rw [HT.out, HD.out]; rfl, on HB.out hb3⟩

end Go.Proofs.Ytnfflmndejbepaa.Sh
