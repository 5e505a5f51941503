/-
  Package straw: who is chosen, all weights added; and the document's choice.
  Conditions: numbers of 32 bits; the list lies in memory.
-/
import Derived.Test.YtgfjmkjgagogpaaGreatSrCalls
namespace Go.Proofs.YtgfjmkjgagogpaaGreat.Sr
open Go.RowKit By Fl Mi
set_option linter.unusedVariables false
set_option linter.unusedSimpArgs false
set_option maxRecDepth 100000

/- What is known of one round: the k-th one, and what comes of it. -/
theorem round_of {x r : Nat} {L : List Wd} {k : Nat} {a : Wd} (hk : L[k]? = some a) :
    (okB a = false ∧ st (DL x r L) (k + 1) = st (DL x r L) k) ∨
    (okB a = true ∧ (st (DL x r L) k).1 < 0 ∧ st (DL x r L) (k + 1) = ((k : Int), dr x r a)) ∨
    (okB a = true ∧ 0 ≤ (st (DL x r L) k).1 ∧ dr x r a < (st (DL x r L) k).2 ∧ st (DL x r L) (k + 1) = ((k : Int), dr x r a)) ∨
    (okB a = true ∧ 0 ≤ (st (DL x r L) k).1 ∧ (st (DL x r L) k).2 ≤ dr x r a ∧ st (DL x r L) (k + 1) = st (DL x r L) k) := by
  cases h : okB a with
  | false => exact .inl ⟨rfl, st_none (DL_no hk h)⟩
  | true =>
    right
    by_cases h1 : (st (DL x r L) k).1 < 0
    · exact .inl ⟨rfl, h1, st_take (DL_yes hk h) (.inl h1)⟩
    · by_cases h2 : dr x r a < (st (DL x r L) k).2
      · exact .inr (.inl ⟨rfl, by omega, h2, st_take (DL_yes hk h) (.inr h2)⟩)
      · exact .inr (.inr ⟨rfl, by omega, by omega, st_keep (DL_yes hk h) (by omega) (by omega)⟩)

theorem st_small (x r : Nat) (L : List Wd) (k : Nat) : (st (DL x r L) k).2 ≤ 17592186044416 := by
  induction k with
  | zero => simp [st]
  | succ k ih =>
    cases hk : L[k]? with
    | none => rw [st_none (by unfold DL; rw [hk]; rfl)]; exact ih
    | some a =>
      have := dr_lt x r a
      rcases round_of (x := x) (r := r) hk with ⟨_, h⟩ | ⟨_, _, h⟩ | ⟨_, _, _, h⟩ | ⟨_, _, _, h⟩ <;> rw [h] <;> first | exact ih | exact this

set_option maxHeartbeats 1600000 in
theorem choose_any {w : World} {x : Option Addr} {n c : Nat} {L : List Wd} (h : Ws w x n c L) (y r : Nat) (hy : y < 4294967296) (hr : r < 4294967296) :
    Calls Tryz.prog 86 #[.slice x n c, .int .u32 (y : Nat), .int .u32 (r : Nat)] w fun e w' => e = .returned (.int .i64 (cho (DL y r L) n)) ∧ Below w.heap.size w w' := by
  have hm := h.small
  have HO : Hid (Ws w x n c L) := h
  have HL : Hid (L.length = n) := h.len
  clear h
  unfold cho
  go_enter Tryz.func86, Tryz.ntmps86
  go_wp2_with fail
  go_loopw [15, 7, 8] (fun i a b wr => ∃ (k : Nat) (C : Int) (S : Nat), k ≤ n ∧ i = .int .i64 k ∧ a = .int .i64 C ∧ b = .int .i64 (S : Nat) ∧ -1 ≤ C ∧ C < n ∧ S ≤ 17592186044416 ∧ Hid (Below w.heap.size w wr ∧ st (DL y r L) k = (C, S))) (fun i _ _ _ => n - (intOf i).toNat)
  case atStart => exact ⟨0, -1, 0, by omega, rfl, rfl, rfl, by omega, by omega, by omega, Below.refl _ _, rfl⟩
  case round =>
    obtain ⟨k, C, S, hk, rfl, rfl, rfl, hC1, hC2, hS, HR⟩ := hrel
    by_cases hlt : k < n
    · have hkn : (k : Int) < (n : Int) := by omega
      obtain ⟨m, hLm⟩ : ∃ m, L[k]? = some m := ⟨L[k]'(by have := HL.out; omega), List.getElem?_eq_getElem (by have := HL.out; omega)⟩
      have ho := HO.out.below HR.out.1
      rcases ho.row with h0 | ⟨b, o, rfl, hbl, hcell⟩
      · omega
      obtain ⟨k0, k1⟩ := hcell k m hLm
      have hd := round_of (x := y) (r := r) hLm
      rw [HR.out.2] at hd
      dsimp only at hd
      have hdl := dr_lt y r m
      have c1 := fun W => draw_any m y r W hy hr
      obtain ⟨tk, htk⟩ : ∃ t, t = okB m := ⟨_, rfl⟩
      unfold dV at c1
      rw [← htk] at hd c1
      clear ho hLm hcell htk
      obtain ⟨id, wt⟩ := m
      unfold vW at c1
      dsimp only at k0 k1 c1
      generalize dr y r ⟨id, wt⟩ = D at *
      have b0 := al wr (.cells #[.int .i64 id, .int .i64 wt] 98)
      rcases hd with ⟨rfl, HE⟩ | ⟨rfl, hq, HE⟩ | ⟨rfl, hq, hq2, HE⟩ | ⟨rfl, hq, hq2, HE⟩
      · have HF := hid HE
        clear HE
        simp only [Bool.false_eq_true, if_false] at c1
        go_wp2_with (go_at_call 112; refine (c1 _).mono ?_; rintro e w1 ⟨rfl, hb1⟩)
        go_roundw
        case rel => exact ⟨k + 1, C, S, by omega, by go_num, rfl, rfl, hC1, hC2, hS, on HR.out.1 (on b0 hb1), HF.out⟩
        case measure => simp [intOf]; omega
      all_goals (
        have HF := hid HE
        clear HE
        simp only [if_true] at c1
        go_wp2_with (go_at_call 112; refine (c1 _).mono ?_; rintro e w1 ⟨rfl, hb1⟩)
        go_roundw
        case rel => first
          | exact ⟨k + 1, k, D, by omega, by go_num, rfl, rfl, by omega, by omega, hdl, on HR.out.1 (on b0 hb1), HF.out⟩
          | exact ⟨k + 1, C, S, by omega, by go_num, rfl, rfl, hC1, hC2, hS, on HR.out.1 (on b0 hb1), HF.out⟩
        case measure => simp [intOf]; omega)
    · have hk2 : k = n := by omega
      subst hk2
      go_wp2_with fail
      go_ret
      exact ⟨by rw [HR.out.2]; rfl, HR.out.1⟩

set_option maxHeartbeats 1600000 in
theorem rchoose_any {w : World} {x : Option Addr} {n c : Nat} {L : List Wd} (h : Ws w x n c L) (y r : Nat) (hy : y < 4294967296) (hr : r < 4294967296) :
    Calls Tryz.prog 70 #[.slice x n c, .int .u32 (y : Nat), .int .u32 (r : Nat)] w fun e w' => e = .returned (.int .i64 (cho (DL y r L) n)) ∧ Below w.heap.size w w' := by
  have hm := h.small
  have HO : Hid (Ws w x n c L) := h
  have HL : Hid (L.length = n) := h.len
  clear h
  unfold cho
  go_enter Tryz.func70, Tryz.ntmps70
  go_wp2_with fail
  go_loopw [9, 7, 8] (fun i a b wr => ∃ (k : Nat) (C : Int) (S : Nat), k ≤ n ∧ i = .int .i64 k ∧ a = .int .i64 C ∧ b = .int .i64 (S : Nat) ∧ -1 ≤ C ∧ C < n ∧ S ≤ 17592186044416 ∧ Hid (Below w.heap.size w wr ∧ st (DL y r L) k = (C, S))) (fun i _ _ _ => n - (intOf i).toNat)
  case atStart => exact ⟨0, -1, 0, by omega, rfl, rfl, rfl, by omega, by omega, by omega, Below.refl _ _, rfl⟩
  case round =>
    obtain ⟨k, C, S, hk, rfl, rfl, rfl, hC1, hC2, hS, HR⟩ := hrel
    by_cases hlt : k < n
    · have hkn : (k : Int) < (n : Int) := by omega
      obtain ⟨m, hLm⟩ : ∃ m, L[k]? = some m := ⟨L[k]'(by have := HL.out; omega), List.getElem?_eq_getElem (by have := HL.out; omega)⟩
      have ho := HO.out.below HR.out.1
      rcases ho.row with h0 | ⟨b, o, rfl, hbl, hcell⟩
      · omega
      obtain ⟨k0, k1⟩ := hcell k m hLm
      have hd := round_of (x := y) (r := r) hLm
      rw [HR.out.2] at hd
      dsimp only at hd
      have hdl := dr_lt y r m
      have c1 := fun W => rdraw_any m y r W hy hr
      obtain ⟨tk, htk⟩ : ∃ t, t = okB m := ⟨_, rfl⟩
      unfold dV at c1
      rw [← htk] at hd c1
      clear ho hLm hcell htk
      obtain ⟨id, wt⟩ := m
      unfold vW at c1
      dsimp only at k0 k1 c1
      generalize dr y r ⟨id, wt⟩ = D at *
      rcases hd with ⟨rfl, HE⟩ | ⟨rfl, hq, HE⟩ | ⟨rfl, hq, hq2, HE⟩ | ⟨rfl, hq, hq2, HE⟩
      · have HF := hid HE
        clear HE
        simp only [Bool.false_eq_true, if_false] at c1
        go_wp2_with (go_at_call 87; refine (c1 _).mono ?_; rintro e w1 ⟨rfl, hb1⟩)
        go_roundw
        case rel => exact ⟨k + 1, C, S, by omega, by go_num, rfl, rfl, hC1, hC2, hS, on HR.out.1 hb1, HF.out⟩
        case measure => simp [intOf]; omega
      all_goals (
        have HF := hid HE
        clear HE
        simp only [if_true] at c1
        go_wp2_with (go_at_call 87; refine (c1 _).mono ?_; rintro e w1 ⟨rfl, hb1⟩)
        go_roundw
        case rel => first
          | exact ⟨k + 1, k, D, by omega, by go_num, rfl, rfl, by omega, by omega, hdl, on HR.out.1 hb1, HF.out⟩
          | exact ⟨k + 1, C, S, by omega, by go_num, rfl, rfl, hC1, hC2, hS, on HR.out.1 hb1, HF.out⟩
        case measure => simp [intOf]; omega)
    · have hk2 : k = n := by omega
      subst hk2
      go_wp2_with fail
      go_ret
      exact ⟨by rw [HR.out.2]; rfl, HR.out.1⟩

end Go.Proofs.YtgfjmkjgagogpaaGreat.Sr
