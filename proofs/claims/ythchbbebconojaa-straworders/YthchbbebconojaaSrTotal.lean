/-
  Package straw: all weights added; the statements' own test.
  Conditions: the list lies in memory.
-/
import Derived.Test.YthchbbebconojaaSrChoose
namespace Go.Proofs.Ythchbbebconojaa.Sr
open Go.RowKit By Fl Mi
set_option linter.unusedVariables false
set_option linter.unusedSimpArgs false
set_option maxRecDepth 100000

set_option maxHeartbeats 1600000 in
theorem total_any {w : World} {x : Option Addr} {n c : Nat} {L : List Wd} (h : Ws w x n c L) :
    Calls Try.prog 13 #[.slice x n c] w fun e w' => e = .returned (.int .i64 (tot wrap64 L n)) ∧ Below w.heap.size w w' := by
  have hm := h.small
  have HO : Hid (Ws w x n c L) := h
  have HL : Hid (L.length = n) := h.len
  clear h
  go_enter Try.func13, Try.ntmps13
  go_wp2_with fail
  go_loopw [8, 3] (fun i a wr => ∃ (k : Nat) (C : Int), k ≤ n ∧ i = .int .i64 k ∧ a = .int .i64 C ∧ Hid (Below w.heap.size w wr ∧ tot wrap64 L k = C)) (fun i _ _ => n - (intOf i).toNat)
  case atStart => exact ⟨0, 0, by omega, rfl, rfl, Below.refl _ _, rfl⟩
  case round =>
    obtain ⟨k, C, hk, rfl, rfl, HR⟩ := hrel
    by_cases hlt : k < n
    · have hkn : (k : Int) < (n : Int) := by omega
      obtain ⟨m, hLm⟩ : ∃ m, L[k]? = some m := ⟨L[k]'(by have := HL.out; omega), List.getElem?_eq_getElem (by have := HL.out; omega)⟩
      have ho := HO.out.below HR.out.1
      rcases ho.row with h0 | ⟨b, o, rfl, hbl, hcell⟩
      · omega
      obtain ⟨k0, k1⟩ := hcell k m hLm
      have c1 := fun W => draws_any m W
      have HY : Hid (okB m = true → tot wrap64 L (k + 1) = wrap64 (C + m.wt)) := fun q => by rw [tot_yes hLm q, HR.out.2]
      have HN : Hid (okB m = false → tot wrap64 L (k + 1) = C) := fun q => by rw [tot_no hLm q, HR.out.2]
      obtain ⟨tk, htk⟩ : ∃ t, t = okB m := ⟨_, rfl⟩
      rw [← htk] at c1 HY HN
      clear ho hLm hcell htk
      obtain ⟨id, wt⟩ := m
      unfold vW at c1
      dsimp only at k0 k1 c1 HY
      have b0 := al wr (.cells #[.int .i64 id, .int .i64 wt] 23)
      have q1 : (wr.alloc (.cells #[.int .i64 id, .int .i64 wt] 23)).cell? ⟨wr.heap.size, 1, none⟩ = some (.int .i64 wt) := by go_simp
      cases tk with
      | false =>
        go_wp2_with (go_at_call 15; refine (c1 _).mono ?_; rintro e w1 ⟨rfl, hb1⟩)
        go_roundw
        case rel => exact ⟨k + 1, C, by omega, by go_num, rfl, on HR.out.1 (on b0 hb1), HN.out trivial⟩
        case measure => simp [intOf]; omega
      | true =>
        go_wp2_with (go_at_call 15; refine (c1 _).mono ?_; rintro e w1 ⟨rfl, hb1⟩; have p1 := keep hb1 q1)
        go_roundw
        case rel => exact ⟨k + 1, wrap64 (C + wt), by omega, by go_num, rfl, on HR.out.1 (on b0 hb1), HY.out trivial⟩
        case measure => simp [intOf]; omega
    · have hk2 : k = n := by omega
      subst hk2
      go_wp2_with fail
      go_ret
      exact ⟨by rw [HR.out.2]; rfl, HR.out.1⟩

theorem two_ok : okB ⟨2, 5⟩ = true := by decide
theorem one_no : okB ⟨1, 0⟩ = false := by decide

theorem cho_two (D : Nat → Option Nat) (d : Nat) (h0 : D 0 = none) (h1 : D 1 = some d) : cho D 2 = 1 := by
  refine cho_of (i := 1) (by omega) h1 (fun j e hj he => ?_) (fun j e hj he => ?_)
  · match j, hj with
    | 0, _ => rw [h0] at he; cases he
    | 1, _ => rw [h1] at he; cases he; exact Nat.le_refl _
  · match j, hj with
    | 0, _ => rw [h0] at he; cases he

theorem tot_two : tot wrap64 [⟨1, 0⟩, ⟨2, 5⟩] 2 = 5 := by decide +kernel

/- The statements' own test: the only one that draws is chosen. -/
theorem awake_any (w : World) : Calls Try.prog 10 #[] w fun e w' => e = .returned (.bool true) ∧ Below w.heap.size w w' := by
  have b0 := al w (.cells #[.int .i64 1, .int .i64 0, .int .i64 2, .int .i64 5] 23)
  obtain ⟨w0, hw0⟩ : ∃ w0, w0 = w.alloc (.cells #[.int .i64 1, .int .i64 0, .int .i64 2, .int .i64 5] 23) := ⟨_, rfl⟩
  have hs : w.heap.size < w0.heap.size := by rw [hw0]; simp
  have hl : Ws w0 (some ⟨w.heap.size, 0, none⟩) 2 2 [⟨1, 0⟩, ⟨2, 5⟩] := by
    refine ⟨rfl, Nat.le_refl _, by omega, (fun h => by cases h), .inr ⟨_, _, rfl, hs, fun k a hk => ?_⟩⟩
    rw [hw0]
    match k, hk with
    | 0, hk =>
      injection hk with hk
      subst hk
      exact ⟨by go_simp, by go_simp⟩
    | 1, hk =>
      injection hk with hk
      subst hk
      exact ⟨by go_simp, by go_simp⟩
    | k + 2, hk => simp at hk
  have hn : ∀ W : World, Ws W none 0 0 [] := fun W => ⟨rfl, Nat.le_refl _, by omega, fun _ => ⟨rfl, rfl⟩, .inl rfl⟩
  have c1 := choose_any hl 3 4 (by omega) (by omega)
  have e1 := cho_two (DL 3 4 [⟨1, 0⟩, ⟨2, 5⟩]) (dr 3 4 ⟨2, 5⟩) (DL_no (a := ⟨1, 0⟩) rfl one_no) (DL_yes (a := ⟨2, 5⟩) rfl two_ok)
  rw [e1] at c1
  have c2 := fun W => choose_any (hn W) 1 2 (by omega) (by omega)
  have e2 : cho (DL 1 2 []) 0 = -1 := rfl
  rw [e2] at c2
  have HC : Hid (∀ W, Below w0.heap.size w0 W → Calls Try.prog 13 #[.slice (some ⟨w.heap.size, 0, none⟩) 2 2] W fun e w' => e = .returned (.int .i64 5) ∧ Below W.heap.size W w') := fun W hb => by
    have := total_any (hl.below hb)
    rw [tot_two] at this
    exact this
  have HB : Hid (Below w.heap.size w w0) := by rw [hw0]; exact b0
  clear hl hs b0 e1 e2
  have HW := hid hw0
  rw [hw0] at c1
  clear hw0
  go_enter Try.func10, Try.ntmps10
  go_wp2_with (first
    | (go_at_call 11; refine c1.mono ?_; rintro e w1 ⟨rfl, hb1⟩; rw [← HW.out] at hb1; clear c1)
    | (go_at_call 11; refine (c2 _).mono ?_; rintro e w2 ⟨rfl, hb2⟩; have c3 := HC.out _ (on hb1 hb2))
    | (go_at_call 13; refine c3.mono ?_; rintro e w3 ⟨rfl, hb3⟩))
  go_ret
  exact ⟨rfl, on HB.out (on (on hb1 hb2) hb3)⟩

end Go.Proofs.Ythchbbebconojaa.Sr
