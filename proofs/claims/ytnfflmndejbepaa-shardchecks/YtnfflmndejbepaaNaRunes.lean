/-
  The document's Runes: a text's runes, or that it is none.
  Conditions: the text is at most 2^20 bytes long.
-/
import Derived.Test.YtnfflmndejbepaaNaInts
namespace Go.Proofs.Ytnfflmndejbepaa.Na
open Go.RowKit
set_option linter.unusedVariables false
set_option linter.unusedSimpArgs false
set_option maxRecDepth 100000

/- What stands at some place. -/
theorem getD_at {l m : List Nat} {p : Nat} (h : l.drop p = m) (j : Nat) : l.getD (p + j) 0 = m.getD j 0 := by
  rw [← h, getD_drop]

theorem get_at' (s : ByteArray) (q b : Nat) (h : q < s.size) (e : (nat s).getD q 0 = b) : ∀ hq : q < s.size, (s[q]'hq).toNat = b := fun hq => by rw [nat_get]; exact e

/- One byte more of a number. -/
theorem more_at (c b : Nat) (hc : c ≤ 40000) (hb : 128 ≤ b) (hb2 : b < 192) :
    ∃ d e f : Nat, (c : Int) * 64 = (d : Int) ∧ (d : Int) + (b : Int) = (e : Int) ∧ (e : Int) - 128 = (f : Int) ∧ d ≤ 2560000 ∧ e ≤ 2560192 ∧ 128 ≤ e ∧ f ≤ 2560064 ∧ f = c * 64 + (b - 128) :=
  ⟨c * 64, c * 64 + b, c * 64 + b - 128, by omega, by omega, by omega, by omega, by omega, by omega, by omega, by omega⟩

theorem getD_lt' {l : List Nat} (h : ∀ x ∈ l, x < 256) (k : Nat) : l.getD k 0 < 256 := by
  by_cases hk : k < l.length
  · exact h _ (getD_mem hk)
  · simp [List.getD, List.getElem?_eq_none (Nat.le_of_not_lt hk)]

set_option maxHeartbeats 4000000 in
set_option maxRecDepth 1000000 in
theorem runes_all (s : ByteArray) (rs t : List Nat) (w : World) (h : Txt (nat s) rs t) (hs : s.size ≤ 1048576) :
    Calls Try.prog 77 #[.string s] w fun e w' => Below w.heap.size w w' ∧ ((t = [] ∧ ∃ V, Own w' w.heap.size V rs ∧ e = .returned (.tuple #[V, .bool true])) ∨ (t ≠ [] ∧ e = .returned (.tuple #[.slice none 0 0, .bool false]))) := by
  have hle := h.len
  rw [nat_length] at hle
  have hpl := pos_le rs rs.length (Nat.le_refl _)
  have hlen : rs.length ≤ 1048576 := by omega
  have HA : Hid (Own (w.alloc (.cells #[] 3)) w.heap.size (.slice (some ⟨w.heap.size, 0, none⟩) 0 0) (rs.take 0) ∧ Below w.heap.size w (w.alloc (.cells #[] 3))) := ⟨⟨ints_empty w, by simp⟩, (Below.refl _ _).alloc (Nat.le_refl _) _⟩
  generalize hN : rs.length = N at hlen hpl hle
  have HN : Hid (rs.length = N) := hN
  have HX : Hid (Txt (nat s) rs t) := h
  have HL : Hid (s.size = pos rs N + t.length) := hle
  clear hN h hle hpl
  go_enter Try.func77, Try.ntmps77
  go_wp2_with fail
  go_loopw [4, 5] (fun V i wr => ∃ k p : Nat, i = .int .i64 p ∧ k ≤ N ∧ p ≤ s.size ∧ Hid (p = pos rs k) ∧ Hid (Own wr w.heap.size V (rs.take k) ∧ Below w.heap.size w wr)) (fun _ i _ => s.size - (intOf i).toNat)
  case atStart => exact ⟨0, 0, rfl, Nat.zero_le _, Nat.zero_le _, rfl, HA⟩
  case round =>
    clear HA
    obtain ⟨k, p, rfl, hk, hp, HP, HW⟩ := hrel
    by_cases hlt : k < N
    · obtain ⟨r, p', q, hr, hp', hq, hpq, hqs, hr2, _, hdr⟩ := next_rune HX.out (by rw [HN.out]; exact hlt) w
      obtain rfl : p' = p := by rw [hp', HP.out]
      have hok : ok r := by rw [hr]; exact HX.out.ok _ (getD_mem (by rw [HN.out]; exact hlt))
      have hwd : q = p' + width r := by rw [hq, hp', hr]; exact pos_succ (by rw [HN.out]; exact hlt)
      have HQ : Hid (q = pos rs (k + 1)) := hq
      obtain ⟨V', w3, hrun, hO3, hB3, _⟩ := push_int wr w w.heap.size u4 (rs.take k) r HW.out.1 (by rw [List.length_take]; omega) HW.out.2.size HW.out.2
      have HN3 : Hid (Own w3 w.heap.size V' (rs.take (k + 1)) ∧ Below w.heap.size w w3) := ⟨by rw [take_snoc (by rw [HN.out]; exact hlt), ← hr]; exact hO3, hB3⟩
      clear hr hp' hq hO3 hB3 HW
      unfold ok at hok
      unfold width at hwd
      have x0 : (nat s).getD (p' + 0) 0 = _ := getD_at hdr 0
      have x1 : (nat s).getD (p' + 1) 0 = _ := getD_at hdr 1
      have x2 : (nat s).getD (p' + 2) 0 = _ := getD_at hdr 2
      have x3 : (nat s).getD (p' + 3) 0 = _ := getD_at hdr 3
      clear hdr
      rw [Nat.add_zero] at x0
      by_cases h1 : r < 128
      · rw [enc_one h1] at x0 x1 x2 x3
        rw [if_pos h1] at hwd
        simp only [List.cons_append, List.nil_append, List.getD_cons_zero, List.getD_cons_succ] at x0
        obtain ⟨b0, e0⟩ : ∃ b0, b0 = r := ⟨_, rfl⟩
        rw [← e0] at x0
        have y0 := get_at' s p' b0 (by omega) x0
        subst e0
        clear x0 x1 x2 x3
        have hz : (p' : Int) + 1 = (q : Int) := by omega
        have hqp : p' < q := by omega
        clear hwd
        go_wp2_with fail
        refine wp_loop_rounds 1 ?_
        rw [rounds_succ]
        go_wp2_with (at_builtin; refine wpList_append_run rfl _ _ 112 rfl _ _ rfl rfl hrun ?_; clear hrun)
        go_roundw
        case rel => exact ⟨k + 1, q, rfl, by omega, hqs, HQ, HN3⟩
        case measure => simp [intOf]; omega
      · by_cases h2 : r < 2048
        · rw [enc_two (by omega) h2] at x0 x1 x2 x3
          rw [if_neg h1, if_pos h2] at hwd
          simp only [List.cons_append, List.nil_append, List.getD_cons_zero, List.getD_cons_succ] at x0
          simp only [List.cons_append, List.nil_append, List.getD_cons_zero, List.getD_cons_succ] at x1
          obtain ⟨b0, e0⟩ : ∃ b0, b0 = 192 + r / 64 := ⟨_, rfl⟩
          rw [← e0] at x0
          have y0 := get_at' s p' b0 (by omega) x0
          obtain ⟨q1, hq1⟩ : ∃ q1, q1 = p' + 1 := ⟨_, rfl⟩
          rw [← hq1] at x1
          have z1 : (p' : Int) + 1 = (q1 : Int) := by omega
          obtain ⟨b1, e1⟩ : ∃ b1, b1 = 128 + r % 64 := ⟨_, rfl⟩
          rw [← e1] at x1
          have y1 := get_at' s q1 b1 (by omega) x1
          have T1 : (q1 < s.size ∧ 128 ≤ (nat s).getD q1 0 ∧ (nat s).getD q1 0 < 192) ↔ true = true := by rw [x1]; simp; omega
          have t1 : ∀ v, Calls Try.prog 87 #[.string s, .int .i64 q1] v fun e w' => e = .returned (.bool true) ∧ w' = v := fun v => tail_any s q1 true v (by omega) T1
          have g1 : 192 ≤ b0 := by omega
          have g2 : b0 < 224 := by omega
          obtain ⟨c0, hc0⟩ : ∃ c0 : Nat, (b0 : Int) - 192 = (c0 : Int) := ⟨b0 - 192, by omega⟩
          obtain ⟨d1, f1, c1, m1a, m1b, m1c, m1d, m1e, m1f, m1g, m1h⟩ := more_at c0 b1 (by omega) (by omega) (by omega)
          obtain rfl : c1 = r := by omega
          clear m1h e0 e1
          clear T1 hq1
          clear x0 x1 x2 x3
          have hz : (p' : Int) + 2 = (q : Int) := by omega
          have hqp : p' < q := by omega
          clear hwd
          go_wp2_with fail
          refine wp_loop_rounds 2 ?_
          rw [rounds_succ]
          go_wp2_with (go_at_call 87; refine (t1 _).mono ?_; clear t1; rintro e w' ⟨rfl, rfl⟩)
          rw [rounds_succ]
          go_wp2_with (at_builtin; refine wpList_append_run rfl _ _ 112 rfl _ _ rfl rfl hrun ?_; clear hrun)
          go_roundw
          case rel => exact ⟨k + 1, q, rfl, by omega, hqs, HQ, HN3⟩
          case measure => simp [intOf]; omega
        · by_cases h3 : r < 65536
          · by_cases h4 : r < 55296
            · rw [enc_three (by omega) h3] at x0 x1 x2 x3
              rw [if_neg h1, if_neg h2, if_pos h3] at hwd
              simp only [List.cons_append, List.nil_append, List.getD_cons_zero, List.getD_cons_succ] at x0
              simp only [List.cons_append, List.nil_append, List.getD_cons_zero, List.getD_cons_succ] at x1
              simp only [List.cons_append, List.nil_append, List.getD_cons_zero, List.getD_cons_succ] at x2
              obtain ⟨b0, e0⟩ : ∃ b0, b0 = 224 + r / 4096 := ⟨_, rfl⟩
              rw [← e0] at x0
              have y0 := get_at' s p' b0 (by omega) x0
              obtain ⟨q1, hq1⟩ : ∃ q1, q1 = p' + 1 := ⟨_, rfl⟩
              rw [← hq1] at x1
              have z1 : (p' : Int) + 1 = (q1 : Int) := by omega
              obtain ⟨b1, e1⟩ : ∃ b1, b1 = 128 + r / 64 % 64 := ⟨_, rfl⟩
              rw [← e1] at x1
              have y1 := get_at' s q1 b1 (by omega) x1
              have T1 : (q1 < s.size ∧ 128 ≤ (nat s).getD q1 0 ∧ (nat s).getD q1 0 < 192) ↔ true = true := by rw [x1]; simp; omega
              have t1 : ∀ v, Calls Try.prog 87 #[.string s, .int .i64 q1] v fun e w' => e = .returned (.bool true) ∧ w' = v := fun v => tail_any s q1 true v (by omega) T1
              obtain ⟨q2, hq2⟩ : ∃ q2, q2 = p' + 2 := ⟨_, rfl⟩
              rw [← hq2] at x2
              have z2 : (p' : Int) + 2 = (q2 : Int) := by omega
              obtain ⟨b2, e2⟩ : ∃ b2, b2 = 128 + r % 64 := ⟨_, rfl⟩
              rw [← e2] at x2
              have y2 := get_at' s q2 b2 (by omega) x2
              have T2 : (q2 < s.size ∧ 128 ≤ (nat s).getD q2 0 ∧ (nat s).getD q2 0 < 192) ↔ true = true := by rw [x2]; simp; omega
              have t2 : ∀ v, Calls Try.prog 87 #[.string s, .int .i64 q2] v fun e w' => e = .returned (.bool true) ∧ w' = v := fun v => tail_any s q2 true v (by omega) T2
              have g1 : 224 ≤ b0 := by omega
              have g2 : b0 < 240 := by omega
              obtain ⟨c0, hc0⟩ : ∃ c0 : Nat, (b0 : Int) - 224 = (c0 : Int) := ⟨b0 - 224, by omega⟩
              obtain ⟨d1, f1, c1, m1a, m1b, m1c, m1d, m1e, m1f, m1g, m1h⟩ := more_at c0 b1 (by omega) (by omega) (by omega)
              obtain ⟨d2, f2, c2, m2a, m2b, m2c, m2d, m2e, m2f, m2g, m2h⟩ := more_at c1 b2 (by omega) (by omega) (by omega)
              obtain rfl : c2 = r := by omega
              clear m1h m2h e0 e1 e2
              clear T1 hq1
              clear T2 hq2
              clear x0 x1 x2 x3
              have hz : (p' : Int) + 3 = (q : Int) := by omega
              have hqp : p' < q := by omega
              clear hwd
              go_wp2_with fail
              refine wp_loop_rounds 3 ?_
              rw [rounds_succ]
              go_wp2_with (go_at_call 87; refine (t1 _).mono ?_; clear t1; rintro e w' ⟨rfl, rfl⟩)
              rw [rounds_succ]
              go_wp2_with (go_at_call 87; refine (t2 _).mono ?_; clear t2; rintro e w' ⟨rfl, rfl⟩)
              rw [rounds_succ]
              go_wp2_with (at_builtin; refine wpList_append_run rfl _ _ 112 rfl _ _ rfl rfl hrun ?_; clear hrun)
              go_roundw
              case rel => exact ⟨k + 1, q, rfl, by omega, hqs, HQ, HN3⟩
              case measure => simp [intOf]; omega
            · rw [enc_three (by omega) h3] at x0 x1 x2 x3
              rw [if_neg h1, if_neg h2, if_pos h3] at hwd
              simp only [List.cons_append, List.nil_append, List.getD_cons_zero, List.getD_cons_succ] at x0
              simp only [List.cons_append, List.nil_append, List.getD_cons_zero, List.getD_cons_succ] at x1
              simp only [List.cons_append, List.nil_append, List.getD_cons_zero, List.getD_cons_succ] at x2
              obtain ⟨b0, e0⟩ : ∃ b0, b0 = 224 + r / 4096 := ⟨_, rfl⟩
              rw [← e0] at x0
              have y0 := get_at' s p' b0 (by omega) x0
              obtain ⟨q1, hq1⟩ : ∃ q1, q1 = p' + 1 := ⟨_, rfl⟩
              rw [← hq1] at x1
              have z1 : (p' : Int) + 1 = (q1 : Int) := by omega
              obtain ⟨b1, e1⟩ : ∃ b1, b1 = 128 + r / 64 % 64 := ⟨_, rfl⟩
              rw [← e1] at x1
              have y1 := get_at' s q1 b1 (by omega) x1
              have T1 : (q1 < s.size ∧ 128 ≤ (nat s).getD q1 0 ∧ (nat s).getD q1 0 < 192) ↔ true = true := by rw [x1]; simp; omega
              have t1 : ∀ v, Calls Try.prog 87 #[.string s, .int .i64 q1] v fun e w' => e = .returned (.bool true) ∧ w' = v := fun v => tail_any s q1 true v (by omega) T1
              obtain ⟨q2, hq2⟩ : ∃ q2, q2 = p' + 2 := ⟨_, rfl⟩
              rw [← hq2] at x2
              have z2 : (p' : Int) + 2 = (q2 : Int) := by omega
              obtain ⟨b2, e2⟩ : ∃ b2, b2 = 128 + r % 64 := ⟨_, rfl⟩
              rw [← e2] at x2
              have y2 := get_at' s q2 b2 (by omega) x2
              have T2 : (q2 < s.size ∧ 128 ≤ (nat s).getD q2 0 ∧ (nat s).getD q2 0 < 192) ↔ true = true := by rw [x2]; simp; omega
              have t2 : ∀ v, Calls Try.prog 87 #[.string s, .int .i64 q2] v fun e w' => e = .returned (.bool true) ∧ w' = v := fun v => tail_any s q2 true v (by omega) T2
              have g1 : 224 ≤ b0 := by omega
              have g2 : b0 < 240 := by omega
              obtain ⟨c0, hc0⟩ : ∃ c0 : Nat, (b0 : Int) - 224 = (c0 : Int) := ⟨b0 - 224, by omega⟩
              obtain ⟨d1, f1, c1, m1a, m1b, m1c, m1d, m1e, m1f, m1g, m1h⟩ := more_at c0 b1 (by omega) (by omega) (by omega)
              obtain ⟨d2, f2, c2, m2a, m2b, m2c, m2d, m2e, m2f, m2g, m2h⟩ := more_at c1 b2 (by omega) (by omega) (by omega)
              obtain rfl : c2 = r := by omega
              clear m1h m2h e0 e1 e2
              clear T1 hq1
              clear T2 hq2
              clear x0 x1 x2 x3
              have hz : (p' : Int) + 3 = (q : Int) := by omega
              have hqp : p' < q := by omega
              clear hwd
              go_wp2_with fail
              refine wp_loop_rounds 3 ?_
              rw [rounds_succ]
              go_wp2_with (go_at_call 87; refine (t1 _).mono ?_; clear t1; rintro e w' ⟨rfl, rfl⟩)
              rw [rounds_succ]
              go_wp2_with (go_at_call 87; refine (t2 _).mono ?_; clear t2; rintro e w' ⟨rfl, rfl⟩)
              rw [rounds_succ]
              go_wp2_with (at_builtin; refine wpList_append_run rfl _ _ 112 rfl _ _ rfl rfl hrun ?_; clear hrun)
              go_roundw
              case rel => exact ⟨k + 1, q, rfl, by omega, hqs, HQ, HN3⟩
              case measure => simp [intOf]; omega
          · rw [enc_four (by omega)] at x0 x1 x2 x3
            rw [if_neg h1, if_neg h2, if_neg h3] at hwd
            simp only [List.cons_append, List.nil_append, List.getD_cons_zero, List.getD_cons_succ] at x0
            simp only [List.cons_append, List.nil_append, List.getD_cons_zero, List.getD_cons_succ] at x1
            simp only [List.cons_append, List.nil_append, List.getD_cons_zero, List.getD_cons_succ] at x2
            simp only [List.cons_append, List.nil_append, List.getD_cons_zero, List.getD_cons_succ] at x3
            obtain ⟨b0, e0⟩ : ∃ b0, b0 = 240 + r / 262144 := ⟨_, rfl⟩
            rw [← e0] at x0
            have y0 := get_at' s p' b0 (by omega) x0
            obtain ⟨q1, hq1⟩ : ∃ q1, q1 = p' + 1 := ⟨_, rfl⟩
            rw [← hq1] at x1
            have z1 : (p' : Int) + 1 = (q1 : Int) := by omega
            obtain ⟨b1, e1⟩ : ∃ b1, b1 = 128 + r / 4096 % 64 := ⟨_, rfl⟩
            rw [← e1] at x1
            have y1 := get_at' s q1 b1 (by omega) x1
            have T1 : (q1 < s.size ∧ 128 ≤ (nat s).getD q1 0 ∧ (nat s).getD q1 0 < 192) ↔ true = true := by rw [x1]; simp; omega
            have t1 : ∀ v, Calls Try.prog 87 #[.string s, .int .i64 q1] v fun e w' => e = .returned (.bool true) ∧ w' = v := fun v => tail_any s q1 true v (by omega) T1
            obtain ⟨q2, hq2⟩ : ∃ q2, q2 = p' + 2 := ⟨_, rfl⟩
            rw [← hq2] at x2
            have z2 : (p' : Int) + 2 = (q2 : Int) := by omega
            obtain ⟨b2, e2⟩ : ∃ b2, b2 = 128 + r / 64 % 64 := ⟨_, rfl⟩
            rw [← e2] at x2
            have y2 := get_at' s q2 b2 (by omega) x2
            have T2 : (q2 < s.size ∧ 128 ≤ (nat s).getD q2 0 ∧ (nat s).getD q2 0 < 192) ↔ true = true := by rw [x2]; simp; omega
            have t2 : ∀ v, Calls Try.prog 87 #[.string s, .int .i64 q2] v fun e w' => e = .returned (.bool true) ∧ w' = v := fun v => tail_any s q2 true v (by omega) T2
            obtain ⟨q3, hq3⟩ : ∃ q3, q3 = p' + 3 := ⟨_, rfl⟩
            rw [← hq3] at x3
            have z3 : (p' : Int) + 3 = (q3 : Int) := by omega
            obtain ⟨b3, e3⟩ : ∃ b3, b3 = 128 + r % 64 := ⟨_, rfl⟩
            rw [← e3] at x3
            have y3 := get_at' s q3 b3 (by omega) x3
            have T3 : (q3 < s.size ∧ 128 ≤ (nat s).getD q3 0 ∧ (nat s).getD q3 0 < 192) ↔ true = true := by rw [x3]; simp; omega
            have t3 : ∀ v, Calls Try.prog 87 #[.string s, .int .i64 q3] v fun e w' => e = .returned (.bool true) ∧ w' = v := fun v => tail_any s q3 true v (by omega) T3
            have g1 : 240 ≤ b0 := by omega
            have g2 : b0 < 248 := by omega
            obtain ⟨c0, hc0⟩ : ∃ c0 : Nat, (b0 : Int) - 240 = (c0 : Int) := ⟨b0 - 240, by omega⟩
            obtain ⟨d1, f1, c1, m1a, m1b, m1c, m1d, m1e, m1f, m1g, m1h⟩ := more_at c0 b1 (by omega) (by omega) (by omega)
            obtain ⟨d2, f2, c2, m2a, m2b, m2c, m2d, m2e, m2f, m2g, m2h⟩ := more_at c1 b2 (by omega) (by omega) (by omega)
            obtain ⟨d3, f3, c3, m3a, m3b, m3c, m3d, m3e, m3f, m3g, m3h⟩ := more_at c2 b3 (by omega) (by omega) (by omega)
            obtain rfl : c3 = r := by omega
            clear m1h m2h m3h e0 e1 e2 e3
            clear T1 hq1
            clear T2 hq2
            clear T3 hq3
            clear x0 x1 x2 x3
            have hz : (p' : Int) + 4 = (q : Int) := by omega
            have hqp : p' < q := by omega
            clear hwd
            go_wp2_with fail
            refine wp_loop_rounds 4 ?_
            rw [rounds_succ]
            go_wp2_with (go_at_call 87; refine (t1 _).mono ?_; clear t1; rintro e w' ⟨rfl, rfl⟩)
            rw [rounds_succ]
            go_wp2_with (go_at_call 87; refine (t2 _).mono ?_; clear t2; rintro e w' ⟨rfl, rfl⟩)
            rw [rounds_succ]
            go_wp2_with (go_at_call 87; refine (t3 _).mono ?_; clear t3; rintro e w' ⟨rfl, rfl⟩)
            rw [rounds_succ]
            go_wp2_with (at_builtin; refine wpList_append_run rfl _ _ 112 rfl _ _ rfl rfl hrun ?_; clear hrun)
            go_roundw
            case rel => exact ⟨k + 1, q, rfl, by omega, hqs, HQ, HN3⟩
            case measure => simp [intOf]; omega
    · obtain rfl : k = N := by omega
      by_cases ht : t = []
      · have hend : p = s.size := by
          rw [HP.out, HL.out, ht]
          simp
        subst hend
        have HR : Hid (Below w.heap.size w wr ∧ ((t = [] ∧ ∃ V, Own wr w.heap.size V rs ∧ u4 = V) ∨ t ≠ [])) := by
          refine ⟨HW.out.2, .inl ⟨ht, u4, ?_, rfl⟩⟩
          have := HW.out.1
          rwa [List.take_of_length_le (by rw [HN.out]; exact Nat.le_refl _)] at this
        clear HW HP HL
        go_wp2_with fail
        go_ret2
        obtain ⟨r1, r2⟩ := HR.out
        refine ⟨r1, .inl ?_⟩
        rcases r2 with ⟨r2, V, r3, rfl⟩ | r2
        · exact ⟨r2, _, r3, rfl⟩
        · exact absurd ht r2
      · obtain ⟨p', hps, hp', _, hdr, htk⟩ := next_bad HX.out ht w
        obtain rfl : p' = p := by rw [hp', HP.out, HN.out]
        have hd : dec t = (65533, 1) := HX.out.rest.resolve_left ht
        have HR : Hid (Below w.heap.size w wr ∧ t ≠ []) := ⟨HW.out.2, ht⟩
        have hl2 : t.length = s.size - p' := by rw [← hdr, List.length_drop, nat_length]
        have x0 : (nat s).getD (p' + 0) 0 = _ := getD_at hdr 0
        have x1 : (nat s).getD (p' + 1) 0 = _ := getD_at hdr 1
        have x2 : (nat s).getD (p' + 2) 0 = _ := getD_at hdr 2
        have x3 : (nat s).getD (p' + 3) 0 = _ := getD_at hdr 3
        rw [Nat.add_zero] at x0
        unfold dec at hd
        rw [hl2, ← x0, ← x1, ← x2, ← x3] at hd
        have v0 := getD_lt' (nat_lt s) p'
        have v1 := getD_lt' (nat_lt s) (p' + 1)
        have v2 := getD_lt' (nat_lt s) (p' + 2)
        have v3 := getD_lt' (nat_lt s) (p' + 3)
        clear x0 x1 x2 x3 hdr htk hp' HP HW HL hl2 ht
        obtain ⟨q1, hq1⟩ : ∃ q1, q1 = p' + 1 := ⟨_, rfl⟩
        obtain ⟨q2, hq2⟩ : ∃ q2, q2 = p' + 2 := ⟨_, rfl⟩
        obtain ⟨q3, hq3⟩ : ∃ q3, q3 = p' + 3 := ⟨_, rfl⟩
        rw [← hq1, ← hq2, ← hq3] at hd
        rw [← hq1] at v1
        rw [← hq2] at v2
        rw [← hq3] at v3
        have z1 : (p' : Int) + 1 = (q1 : Int) := by omega
        have z2 : (p' : Int) + 2 = (q2 : Int) := by omega
        have z3 : (p' : Int) + 3 = (q3 : Int) := by omega
        obtain ⟨b0, x0⟩ : ∃ b0, (nat s).getD p' 0 = b0 := ⟨_, rfl⟩
        obtain ⟨b1, x1⟩ : ∃ b1, (nat s).getD q1 0 = b1 := ⟨_, rfl⟩
        obtain ⟨b2, x2⟩ : ∃ b2, (nat s).getD q2 0 = b2 := ⟨_, rfl⟩
        obtain ⟨b3, x3⟩ : ∃ b3, (nat s).getD q3 0 = b3 := ⟨_, rfl⟩
        rw [x0, x1, x2, x3] at hd
        rw [x0] at v0
        rw [x1] at v1
        rw [x2] at v2
        rw [x3] at v3
        have y0 := get_at' s p' b0 (by omega) x0
        have y1 := fun h => get_at' s q1 b1 h x1 h
        have y2 := fun h => get_at' s q2 b2 h x2 h
        have y3 := fun h => get_at' s q3 b3 h x3 h
        have e1 : q1 < s.size ↔ 1 < s.size - p' := by omega
        have e2 : q2 < s.size ↔ 2 < s.size - p' := by omega
        have e3 : q3 < s.size ↔ 3 < s.size - p' := by omega
        have hb0 : 128 ≤ b0 := by
          by_cases hh : b0 < 128
          · simp only [Lib.decodeN, if_pos hh] at hd
            injection hd with h1 h2
            omega
          · omega
        unfold Lib.decodeN at hd
        rw [if_neg (by omega)] at hd
        clear x0 HX
        by_cases a1 : b0 < 192
        · clear hd x1 x2 x3 y1 y2 y3 e1 e2 e3 hq1 hq2 hq3
          go_wp2_with fail
          go_ret2
          exact ⟨HR.out.1, .inr ⟨HR.out.2, rfl⟩⟩
        · by_cases a2 : 248 ≤ b0
          · clear hd x1 x2 x3 y1 y2 y3 e1 e2 e3 hq1 hq2 hq3
            go_wp2_with fail
            go_ret2
            exact ⟨HR.out.1, .inr ⟨HR.out.2, rfl⟩⟩
          · by_cases a3 : b0 < 224
            · skip
              have g1 : 192 ≤ b0 := by omega
              have g2 : b0 < 224 := by omega
              obtain ⟨c0, hc0⟩ : ∃ c0 : Nat, (b0 : Int) - 192 = (c0 : Int) := ⟨b0 - 192, by omega⟩
              by_cases k1 : q1 < s.size ∧ 128 ≤ b1 ∧ b1 < 192
              · have T1 : (q1 < s.size ∧ 128 ≤ (nat s).getD q1 0 ∧ (nat s).getD q1 0 < 192) ↔ true = true := by rw [x1]; exact ⟨fun _ => rfl, fun _ => k1⟩
                have t1 : ∀ v, Calls Try.prog 87 #[.string s, .int .i64 q1] v fun e w' => e = .returned (.bool true) ∧ w' = v := fun v => tail_any s q1 true v (by omega) T1
                obtain ⟨d1, f1, c1, m1a, m1b, m1c, m1d, m1e, m1f, m1g, m1h⟩ := more_at c0 b1 (by omega) k1.2.1 k1.2.2
                have hc : c1 < 128 := by
                  rw [if_pos (by omega)] at hd
                  split at hd
                  · injection hd with h1 h2; omega
                  · omega
                have yy1 := y1
                have ll1 := k1.1
                clear hd x1 x2 x3 y1 y2 y3 e1 e2 e3 hq1 hq2 hq3 k1 m1h T1
                go_wp2_with fail
                refine wp_loop_rounds 2 ?_
                rw [rounds_succ]
                go_wp2_with (go_at_call 87; refine (t1 _).mono ?_; clear t1; rintro e w' ⟨rfl, rfl⟩)
                rw [rounds_succ]
                go_wp2_with fail
                go_ret2
                exact ⟨HR.out.1, .inr ⟨HR.out.2, rfl⟩⟩
              · have T1 : (q1 < s.size ∧ 128 ≤ (nat s).getD q1 0 ∧ (nat s).getD q1 0 < 192) ↔ false = true := by rw [x1]; exact ⟨fun hh => absurd hh k1, fun hh => by cases hh⟩
                have t1 : ∀ v, Calls Try.prog 87 #[.string s, .int .i64 q1] v fun e w' => e = .returned (.bool false) ∧ w' = v := fun v => tail_any s q1 false v (by omega) T1
                clear hd x1 x2 x3 y1 y2 y3 e1 e2 e3 hq1 hq2 hq3 k1 T1
                go_wp2_with fail
                refine wp_loop_rounds 2 ?_
                rw [rounds_succ]
                go_wp2_with (go_at_call 87; refine (t1 _).mono ?_; clear t1; rintro e w' ⟨rfl, rfl⟩)
                go_ret2
                exact ⟨HR.out.1, .inr ⟨HR.out.2, rfl⟩⟩
            · by_cases a4 : b0 < 240
              · skip
                have g1 : 224 ≤ b0 := by omega
                have g2 : b0 < 240 := by omega
                obtain ⟨c0, hc0⟩ : ∃ c0 : Nat, (b0 : Int) - 224 = (c0 : Int) := ⟨b0 - 224, by omega⟩
                by_cases k1 : q1 < s.size ∧ 128 ≤ b1 ∧ b1 < 192
                · have T1 : (q1 < s.size ∧ 128 ≤ (nat s).getD q1 0 ∧ (nat s).getD q1 0 < 192) ↔ true = true := by rw [x1]; exact ⟨fun _ => rfl, fun _ => k1⟩
                  have t1 : ∀ v, Calls Try.prog 87 #[.string s, .int .i64 q1] v fun e w' => e = .returned (.bool true) ∧ w' = v := fun v => tail_any s q1 true v (by omega) T1
                  obtain ⟨d1, f1, c1, m1a, m1b, m1c, m1d, m1e, m1f, m1g, m1h⟩ := more_at c0 b1 (by omega) k1.2.1 k1.2.2
                  by_cases k2 : q2 < s.size ∧ 128 ≤ b2 ∧ b2 < 192
                  · have T2 : (q2 < s.size ∧ 128 ≤ (nat s).getD q2 0 ∧ (nat s).getD q2 0 < 192) ↔ true = true := by rw [x2]; exact ⟨fun _ => rfl, fun _ => k2⟩
                    have t2 : ∀ v, Calls Try.prog 87 #[.string s, .int .i64 q2] v fun e w' => e = .returned (.bool true) ∧ w' = v := fun v => tail_any s q2 true v (by omega) T2
                    obtain ⟨d2, f2, c2, m2a, m2b, m2c, m2d, m2e, m2f, m2g, m2h⟩ := more_at c1 b2 (by omega) k2.2.1 k2.2.2
                    have hc : c2 < 2048 ∨ (55296 ≤ c2 ∧ c2 < 57344) := by
                      rw [if_neg (by omega), if_pos (by omega)] at hd
                      split at hd
                      · injection hd with h1 h2; omega
                      · omega
                    rcases hc with hc | hc
                    · have hz : c2 < 2048 := hc
                      have yy1 := y1
                      have ll1 := k1.1
                      have yy2 := y2
                      have ll2 := k2.1
                      clear hd x1 x2 x3 y1 y2 y3 e1 e2 e3 hq1 hq2 hq3 k1 k2 m1h m2h T1 T2
                      go_wp2_with fail
                      refine wp_loop_rounds 3 ?_
                      rw [rounds_succ]
                      go_wp2_with (go_at_call 87; refine (t1 _).mono ?_; clear t1; rintro e w' ⟨rfl, rfl⟩)
                      rw [rounds_succ]
                      go_wp2_with (go_at_call 87; refine (t2 _).mono ?_; clear t2; rintro e w' ⟨rfl, rfl⟩)
                      rw [rounds_succ]
                      go_wp2_with fail
                      go_ret2
                      exact ⟨HR.out.1, .inr ⟨HR.out.2, rfl⟩⟩
                    · have hz : 55296 ≤ c2 := hc.1
                      have hz2 : c2 < 57344 := hc.2
                      have yy1 := y1
                      have ll1 := k1.1
                      have yy2 := y2
                      have ll2 := k2.1
                      clear hd x1 x2 x3 y1 y2 y3 e1 e2 e3 hq1 hq2 hq3 k1 k2 m1h m2h T1 T2
                      go_wp2_with fail
                      refine wp_loop_rounds 3 ?_
                      rw [rounds_succ]
                      go_wp2_with (go_at_call 87; refine (t1 _).mono ?_; clear t1; rintro e w' ⟨rfl, rfl⟩)
                      rw [rounds_succ]
                      go_wp2_with (go_at_call 87; refine (t2 _).mono ?_; clear t2; rintro e w' ⟨rfl, rfl⟩)
                      rw [rounds_succ]
                      go_wp2_with fail
                      go_ret2
                      exact ⟨HR.out.1, .inr ⟨HR.out.2, rfl⟩⟩
                  · have T2 : (q2 < s.size ∧ 128 ≤ (nat s).getD q2 0 ∧ (nat s).getD q2 0 < 192) ↔ false = true := by rw [x2]; exact ⟨fun hh => absurd hh k2, fun hh => by cases hh⟩
                    have t2 : ∀ v, Calls Try.prog 87 #[.string s, .int .i64 q2] v fun e w' => e = .returned (.bool false) ∧ w' = v := fun v => tail_any s q2 false v (by omega) T2
                    have yy1 := y1
                    have ll1 := k1.1
                    clear hd x1 x2 x3 y1 y2 y3 e1 e2 e3 hq1 hq2 hq3 k1 k2 m1h T1 T2
                    go_wp2_with fail
                    refine wp_loop_rounds 3 ?_
                    rw [rounds_succ]
                    go_wp2_with (go_at_call 87; refine (t1 _).mono ?_; clear t1; rintro e w' ⟨rfl, rfl⟩)
                    rw [rounds_succ]
                    go_wp2_with (go_at_call 87; refine (t2 _).mono ?_; clear t2; rintro e w' ⟨rfl, rfl⟩)
                    go_ret2
                    exact ⟨HR.out.1, .inr ⟨HR.out.2, rfl⟩⟩
                · have T1 : (q1 < s.size ∧ 128 ≤ (nat s).getD q1 0 ∧ (nat s).getD q1 0 < 192) ↔ false = true := by rw [x1]; exact ⟨fun hh => absurd hh k1, fun hh => by cases hh⟩
                  have t1 : ∀ v, Calls Try.prog 87 #[.string s, .int .i64 q1] v fun e w' => e = .returned (.bool false) ∧ w' = v := fun v => tail_any s q1 false v (by omega) T1
                  clear hd x1 x2 x3 y1 y2 y3 e1 e2 e3 hq1 hq2 hq3 k1 T1
                  go_wp2_with fail
                  refine wp_loop_rounds 2 ?_
                  rw [rounds_succ]
                  go_wp2_with (go_at_call 87; refine (t1 _).mono ?_; clear t1; rintro e w' ⟨rfl, rfl⟩)
                  go_ret2
                  exact ⟨HR.out.1, .inr ⟨HR.out.2, rfl⟩⟩
              · skip
                have g1 : 240 ≤ b0 := by omega
                have g2 : b0 < 248 := by omega
                obtain ⟨c0, hc0⟩ : ∃ c0 : Nat, (b0 : Int) - 240 = (c0 : Int) := ⟨b0 - 240, by omega⟩
                by_cases k1 : q1 < s.size ∧ 128 ≤ b1 ∧ b1 < 192
                · have T1 : (q1 < s.size ∧ 128 ≤ (nat s).getD q1 0 ∧ (nat s).getD q1 0 < 192) ↔ true = true := by rw [x1]; exact ⟨fun _ => rfl, fun _ => k1⟩
                  have t1 : ∀ v, Calls Try.prog 87 #[.string s, .int .i64 q1] v fun e w' => e = .returned (.bool true) ∧ w' = v := fun v => tail_any s q1 true v (by omega) T1
                  obtain ⟨d1, f1, c1, m1a, m1b, m1c, m1d, m1e, m1f, m1g, m1h⟩ := more_at c0 b1 (by omega) k1.2.1 k1.2.2
                  by_cases k2 : q2 < s.size ∧ 128 ≤ b2 ∧ b2 < 192
                  · have T2 : (q2 < s.size ∧ 128 ≤ (nat s).getD q2 0 ∧ (nat s).getD q2 0 < 192) ↔ true = true := by rw [x2]; exact ⟨fun _ => rfl, fun _ => k2⟩
                    have t2 : ∀ v, Calls Try.prog 87 #[.string s, .int .i64 q2] v fun e w' => e = .returned (.bool true) ∧ w' = v := fun v => tail_any s q2 true v (by omega) T2
                    obtain ⟨d2, f2, c2, m2a, m2b, m2c, m2d, m2e, m2f, m2g, m2h⟩ := more_at c1 b2 (by omega) k2.2.1 k2.2.2
                    by_cases k3 : q3 < s.size ∧ 128 ≤ b3 ∧ b3 < 192
                    · have T3 : (q3 < s.size ∧ 128 ≤ (nat s).getD q3 0 ∧ (nat s).getD q3 0 < 192) ↔ true = true := by rw [x3]; exact ⟨fun _ => rfl, fun _ => k3⟩
                      have t3 : ∀ v, Calls Try.prog 87 #[.string s, .int .i64 q3] v fun e w' => e = .returned (.bool true) ∧ w' = v := fun v => tail_any s q3 true v (by omega) T3
                      obtain ⟨d3, f3, c3, m3a, m3b, m3c, m3d, m3e, m3f, m3g, m3h⟩ := more_at c2 b3 (by omega) k3.2.1 k3.2.2
                      have hc : c3 < 65536 ∨ 1114111 < c3 := by
                        rw [if_neg (by omega), if_neg (by omega), if_pos (by omega)] at hd
                        split at hd
                        · injection hd with h1 h2; omega
                        · omega
                      rcases hc with hc | hc
                      · have hz : c3 < 65536 := hc
                        have yy1 := y1
                        have ll1 := k1.1
                        have yy2 := y2
                        have ll2 := k2.1
                        have yy3 := y3
                        have ll3 := k3.1
                        clear hd x1 x2 x3 y1 y2 y3 e1 e2 e3 hq1 hq2 hq3 k1 k2 k3 m1h m2h m3h T1 T2 T3
                        go_wp2_with fail
                        refine wp_loop_rounds 4 ?_
                        rw [rounds_succ]
                        go_wp2_with (go_at_call 87; refine (t1 _).mono ?_; clear t1; rintro e w' ⟨rfl, rfl⟩)
                        rw [rounds_succ]
                        go_wp2_with (go_at_call 87; refine (t2 _).mono ?_; clear t2; rintro e w' ⟨rfl, rfl⟩)
                        rw [rounds_succ]
                        go_wp2_with (go_at_call 87; refine (t3 _).mono ?_; clear t3; rintro e w' ⟨rfl, rfl⟩)
                        rw [rounds_succ]
                        go_wp2_with fail
                        go_ret2
                        exact ⟨HR.out.1, .inr ⟨HR.out.2, rfl⟩⟩
                      · have hz : 1114111 < c3 := hc
                        have yy1 := y1
                        have ll1 := k1.1
                        have yy2 := y2
                        have ll2 := k2.1
                        have yy3 := y3
                        have ll3 := k3.1
                        clear hd x1 x2 x3 y1 y2 y3 e1 e2 e3 hq1 hq2 hq3 k1 k2 k3 m1h m2h m3h T1 T2 T3
                        go_wp2_with fail
                        refine wp_loop_rounds 4 ?_
                        rw [rounds_succ]
                        go_wp2_with (go_at_call 87; refine (t1 _).mono ?_; clear t1; rintro e w' ⟨rfl, rfl⟩)
                        rw [rounds_succ]
                        go_wp2_with (go_at_call 87; refine (t2 _).mono ?_; clear t2; rintro e w' ⟨rfl, rfl⟩)
                        rw [rounds_succ]
                        go_wp2_with (go_at_call 87; refine (t3 _).mono ?_; clear t3; rintro e w' ⟨rfl, rfl⟩)
                        rw [rounds_succ]
                        go_wp2_with fail
                        go_ret2
                        exact ⟨HR.out.1, .inr ⟨HR.out.2, rfl⟩⟩
                    · have T3 : (q3 < s.size ∧ 128 ≤ (nat s).getD q3 0 ∧ (nat s).getD q3 0 < 192) ↔ false = true := by rw [x3]; exact ⟨fun hh => absurd hh k3, fun hh => by cases hh⟩
                      have t3 : ∀ v, Calls Try.prog 87 #[.string s, .int .i64 q3] v fun e w' => e = .returned (.bool false) ∧ w' = v := fun v => tail_any s q3 false v (by omega) T3
                      have yy1 := y1
                      have ll1 := k1.1
                      have yy2 := y2
                      have ll2 := k2.1
                      clear hd x1 x2 x3 y1 y2 y3 e1 e2 e3 hq1 hq2 hq3 k1 k2 k3 m1h m2h T1 T2 T3
                      go_wp2_with fail
                      refine wp_loop_rounds 4 ?_
                      rw [rounds_succ]
                      go_wp2_with (go_at_call 87; refine (t1 _).mono ?_; clear t1; rintro e w' ⟨rfl, rfl⟩)
                      rw [rounds_succ]
                      go_wp2_with (go_at_call 87; refine (t2 _).mono ?_; clear t2; rintro e w' ⟨rfl, rfl⟩)
                      rw [rounds_succ]
                      go_wp2_with (go_at_call 87; refine (t3 _).mono ?_; clear t3; rintro e w' ⟨rfl, rfl⟩)
                      go_ret2
                      exact ⟨HR.out.1, .inr ⟨HR.out.2, rfl⟩⟩
                  · have T2 : (q2 < s.size ∧ 128 ≤ (nat s).getD q2 0 ∧ (nat s).getD q2 0 < 192) ↔ false = true := by rw [x2]; exact ⟨fun hh => absurd hh k2, fun hh => by cases hh⟩
                    have t2 : ∀ v, Calls Try.prog 87 #[.string s, .int .i64 q2] v fun e w' => e = .returned (.bool false) ∧ w' = v := fun v => tail_any s q2 false v (by omega) T2
                    have yy1 := y1
                    have ll1 := k1.1
                    clear hd x1 x2 x3 y1 y2 y3 e1 e2 e3 hq1 hq2 hq3 k1 k2 m1h T1 T2
                    go_wp2_with fail
                    refine wp_loop_rounds 3 ?_
                    rw [rounds_succ]
                    go_wp2_with (go_at_call 87; refine (t1 _).mono ?_; clear t1; rintro e w' ⟨rfl, rfl⟩)
                    rw [rounds_succ]
                    go_wp2_with (go_at_call 87; refine (t2 _).mono ?_; clear t2; rintro e w' ⟨rfl, rfl⟩)
                    go_ret2
                    exact ⟨HR.out.1, .inr ⟨HR.out.2, rfl⟩⟩
                · have T1 : (q1 < s.size ∧ 128 ≤ (nat s).getD q1 0 ∧ (nat s).getD q1 0 < 192) ↔ false = true := by rw [x1]; exact ⟨fun hh => absurd hh k1, fun hh => by cases hh⟩
                  have t1 : ∀ v, Calls Try.prog 87 #[.string s, .int .i64 q1] v fun e w' => e = .returned (.bool false) ∧ w' = v := fun v => tail_any s q1 false v (by omega) T1
                  clear hd x1 x2 x3 y1 y2 y3 e1 e2 e3 hq1 hq2 hq3 k1 T1
                  go_wp2_with fail
                  refine wp_loop_rounds 2 ?_
                  rw [rounds_succ]
                  go_wp2_with (go_at_call 87; refine (t1 _).mono ?_; clear t1; rintro e w' ⟨rfl, rfl⟩)
                  go_ret2
                  exact ⟨HR.out.1, .inr ⟨HR.out.2, rfl⟩⟩

end Go.Proofs.Ytnfflmndejbepaa.Na
