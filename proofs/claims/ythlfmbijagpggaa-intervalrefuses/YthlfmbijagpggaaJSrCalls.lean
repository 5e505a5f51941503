/-
  2 texts of this proof, one behind the other: SrCalls, SrChoose.
-/
import Derived.Test.YthlfmbijagpggaaSrMem
import Derived.Test.YthlfmbijagpggaaJMiPlain
import Derived.Test.YthlfmbijagpggaaJMiLog
/-
  Package straw: who draws, what it draws; and the document's draw.
  Conditions: numbers of 32 bits; what a number of 64 bits can be.
-/
namespace Go.Proofs.Ythlfmbijagpggaa.Sr
open Go.RowKit By Fl Mi
set_option linter.unusedVariables false
set_option linter.unusedSimpArgs false
set_option maxRecDepth 100000

/- draws(w). -/
theorem draws_any (a : Wd) (w : World) : Calls Try.prog 97 #[vW a] w fun e w' => e = .returned (.bool (okB a)) ∧ Below w.heap.size w w' := by
  obtain ⟨id, wt⟩ := a
  unfold vW okB
  dsimp only
  have b0 := al w (.cells #[.int .i64 id, .int .i64 wt] 106)
  by_cases h1 : 1 ≤ wt
  · by_cases h2 : wt ≤ 1073741824
    · go_enter Try.func97, Try.ntmps97
      go_wp2_with fail
      go_ret
      exact ⟨by rw [decide_eq_true ⟨h1, h2⟩]; rfl, b0⟩
    · have h3 : decide (wt ≤ 1073741824) = false := decide_eq_false h2
      go_enter Try.func97, Try.ntmps97
      go_wp2_with fail
      go_ret
      exact ⟨rfl, b0⟩
  · have h3 : decide (1 ≤ wt) = false := decide_eq_false h1
    go_enter Try.func97, Try.ntmps97
    go_wp2_with fail
    go_ret
    exact ⟨rfl, b0⟩

theorem draw_no (a : Wd) (x r : Nat) (w : World) (h : okB a = false) :
    Calls Try.prog 88 #[vW a, .int .u32 (x : Nat), .int .u32 (r : Nat)] w fun e w' => e = .returned (.tuple #[.int .i64 0, .bool false]) ∧ Below w.heap.size w w' := by
  have c1 := fun W => draws_any a W
  rw [h] at c1
  clear h
  obtain ⟨id, wt⟩ := a
  unfold vW at c1 ⊢
  dsimp only at c1 ⊢
  have b0 := al w (.cells #[.int .i64 id, .int .i64 wt] 106)
  go_enter Try.func88, Try.ntmps88
  go_wp2_with (go_at_call 97; refine (c1 _).mono ?_; rintro e w1 ⟨rfl, hb1⟩)
  go_ret2
  exact ⟨rfl, on b0 hb1⟩

theorem draw_yes (a : Wd) (x r : Nat) (w : World) (hx : x < 4294967296) (hr : r < 4294967296) (h : okB a = true) :
    Calls Try.prog 88 #[vW a, .int .u32 (x : Nat), .int .u32 (r : Nat)] w fun e w' => e = .returned (.tuple #[.int .i64 (dr x r a : Nat), .bool true]) ∧ Below w.heap.size w w' := by
  have c1 := fun W => draws_any a W
  rw [h] at c1
  have hok : 1 ≤ a.wt ∧ a.wt ≤ 1073741824 := of_decide_eq_true h
  clear h
  obtain ⟨id, wt⟩ := a
  dsimp only at hok
  obtain ⟨k1, k2⟩ := hok
  have c2 := fun W => hash3_any x (idm id) r W hx (idm_lt id) hr
  have c3 := fun W => log_yes (up x r id + 1) W (by omega) (by have := up_lt x r id; omega)
  have hl := lo_le x r id
  have hu := up_lt x r id
  have hh := h3_lt x (idm id) r
  have e1 := idm_eq id
  have e2 : ((h3 x (idm id) r : Nat) : Int) % 65536 = ((up x r id : Nat) : Int) := by unfold up; omega
  have e3 : ((h3 x (idm id) r : Nat) : Int).tmod 65536 = ((up x r id : Nat) : Int) := by rw [Int.tmod_eq_emod_of_nonneg (by omega)]; exact e2
  have hm := idm_lt id
  unfold dr
  obtain ⟨wn, rfl⟩ := Int.eq_ofNat_of_zero_le (show 0 ≤ wt by omega)
  dsimp only [Int.toNat_natCast]
  have HD : Hid ((((268435456 - lo x r id) * 65536 / wn : Nat) : Int) = (268435456 - (lo x r id : Int)) * 65536 / (wn : Int)) := by
    have : (((268435456 - lo x r id) * 65536 / wn : Nat) : Int) = (268435456 - (lo x r id : Int)) * 65536 / (wn : Int) := by
      rw [Int.natCast_ediv, Int.natCast_mul, Int.natCast_sub hl]
      rfl
    exact this
  have c3' : ∀ W : World, Calls Try.prog 99 #[.int .i64 ((up x r id : Int) + 1)] W fun e w' => e = .returned (.tuple #[.int .i64 (lo x r id : Int), .bool true]) ∧ w' = W := fun W => c3 W
  clear c3
  unfold vW at c1 ⊢
  dsimp only at c1 ⊢
  generalize ((268435456 - lo x r id) * 65536 / wn) = D at *
  generalize h3 x (idm id) r = H at *
  generalize idm id = I at *
  generalize up x r id = U at *
  generalize lo x r id = L at *
  have b0 := al w (.cells #[.int .i64 id, .int .i64 (wn : Int)] 106)
  have q0 : (w.alloc (.cells #[.int .i64 id, .int .i64 (wn : Int)] 106)).cell? ⟨w.heap.size, 0, none⟩ = some (.int .i64 id) := by go_simp
  have q1 : (w.alloc (.cells #[.int .i64 id, .int .i64 (wn : Int)] 106)).cell? ⟨w.heap.size, 1, none⟩ = some (.int .i64 (wn : Int)) := by go_simp
  go_enter Try.func88, Try.ntmps88
  go_wp2_with (first
    | (go_at_call 97; refine (c1 _).mono ?_; rintro e w1 ⟨rfl, hb1⟩; have p0 := keep hb1 q0; have p1 := keep hb1 q1)
    | (go_at_call 98; refine (c2 _).mono ?_; rintro e w2 ⟨rfl, rfl⟩)
    | (go_at_call 99; refine (c3' _).mono ?_; rintro e w2 ⟨rfl, rfl⟩))
  go_ret2
  exact ⟨by rw [HD.out]; rfl, on b0 hb1⟩

theorem draw_any (a : Wd) (x r : Nat) (w : World) (hx : x < 4294967296) (hr : r < 4294967296) :
    Calls Try.prog 88 #[vW a, .int .u32 (x : Nat), .int .u32 (r : Nat)] w fun e w' => e = .returned (.tuple #[.int .i64 (dV x r a), .bool (okB a)]) ∧ Below w.heap.size w w' := by
  unfold dV
  cases h : okB a with
  | true => exact draw_yes a x r w hx hr h
  | false => exact draw_no a x r w h

end Go.Proofs.Ythlfmbijagpggaa.Sr

/-
  Package straw: who is chosen, all weights added; and the document's choice.
  Conditions: numbers of 32 bits; the list lies in memory.
-/
namespace Go.Proofs.Ythlfmbijagpggaa.Sr
open Go.RowKit By Fl Mi
set_option linter.unusedVariables false
set_option linter.unusedSimpArgs false
set_option maxRecDepth 100000

/- What is known of one round: the k-th one, and what comes of it. -/
theorem round_of {x r : Nat} {L : List Wd} {k : Nat} {a : Wd} (hk : L[k]? = some a) :
    (okB a = false ∧ st (DL x r L) (k + 1) = st (DL x r L) k) ∨
    (okB a = true ∧ (st (DL x r L) k).1 < 0 ∧ st (DL x r L) (k + 1) = ((k : Int), dr x r a)) ∨
    (okB a = true ∧ 0 ≤ (st (DL x r L) k).1 ∧ dr x r a < (st (DL x r L) k).2 ∧ st (DL x r L) (k + 1) = ((k : Int), dr x r a)) ∨
    (okB a = true ∧ 0 ≤ (st (DL x r L) k).1 ∧ (st (DL x r L) k).2 ≤ dr x r a ∧ st (DL x r L) (k + 1) = st (DL x r L) k) := by
  cases h : okB a with
  | false => exact .inl ⟨rfl, st_none (DL_no hk h)⟩
  | true =>
    right
    by_cases h1 : (st (DL x r L) k).1 < 0
    · exact .inl ⟨rfl, h1, st_take (DL_yes hk h) (.inl h1)⟩
    · by_cases h2 : dr x r a < (st (DL x r L) k).2
      · exact .inr (.inl ⟨rfl, by omega, h2, st_take (DL_yes hk h) (.inr h2)⟩)
      · exact .inr (.inr ⟨rfl, by omega, by omega, st_keep (DL_yes hk h) (by omega) (by omega)⟩)

theorem st_small (x r : Nat) (L : List Wd) (k : Nat) : (st (DL x r L) k).2 ≤ 17592186044416 := by
  induction k with
  | zero => simp [st]
  | succ k ih =>
    cases hk : L[k]? with
    | none => rw [st_none (by unfold DL; rw [hk]; rfl)]; exact ih
    | some a =>
      have := dr_lt x r a
      rcases round_of (x := x) (r := r) hk with ⟨_, h⟩ | ⟨_, _, h⟩ | ⟨_, _, _, h⟩ | ⟨_, _, _, h⟩ <;> rw [h] <;> first | exact ih | exact this

set_option maxHeartbeats 1600000 in
theorem choose_any {w : World} {x : Option Addr} {n c : Nat} {L : List Wd} (h : Ws w x n c L) (y r : Nat) (hy : y < 4294967296) (hr : r < 4294967296) :
    Calls Try.prog 66 #[.slice x n c, .int .u32 (y : Nat), .int .u32 (r : Nat)] w fun e w' => e = .returned (.int .i64 (cho (DL y r L) n)) ∧ Below w.heap.size w w' := by
  have hm := h.small
  have HO : Hid (Ws w x n c L) := h
  have HL : Hid (L.length = n) := h.len
  clear h
  unfold cho
  go_enter Try.func66, Try.ntmps66
  go_wp2_with fail
  go_loopw [15, 7, 8] (fun i a b wr => ∃ (k : Nat) (C : Int) (S : Nat), k ≤ n ∧ i = .int .i64 k ∧ a = .int .i64 C ∧ b = .int .i64 (S : Nat) ∧ -1 ≤ C ∧ C < n ∧ S ≤ 17592186044416 ∧ Hid (Below w.heap.size w wr ∧ st (DL y r L) k = (C, S))) (fun i _ _ _ => n - (intOf i).toNat)
  case atStart => exact ⟨0, -1, 0, by omega, rfl, rfl, rfl, by omega, by omega, by omega, Below.refl _ _, rfl⟩
  case round =>
    obtain ⟨k, C, S, hk, rfl, rfl, rfl, hC1, hC2, hS, HR⟩ := hrel
    by_cases hlt : k < n
    · have hkn : (k : Int) < (n : Int) := by omega
      obtain ⟨m, hLm⟩ : ∃ m, L[k]? = some m := ⟨L[k]'(by have := HL.out; omega), List.getElem?_eq_getElem (by have := HL.out; omega)⟩
      have ho := HO.out.below HR.out.1
      rcases ho.row with h0 | ⟨b, o, rfl, hbl, hcell⟩
      · omega
      obtain ⟨k0, k1⟩ := hcell k m hLm
      have hd := round_of (x := y) (r := r) hLm
      rw [HR.out.2] at hd
      dsimp only at hd
      have hdl := dr_lt y r m
      have c1 := fun W => draw_any m y r W hy hr
      obtain ⟨tk, htk⟩ : ∃ t, t = okB m := ⟨_, rfl⟩
      unfold dV at c1
      rw [← htk] at hd c1
      clear ho hLm hcell htk
      obtain ⟨id, wt⟩ := m
      unfold vW at c1
      dsimp only at k0 k1 c1
      generalize dr y r ⟨id, wt⟩ = D at *
      have b0 := al wr (.cells #[.int .i64 id, .int .i64 wt] 106)
      rcases hd with ⟨rfl, HE⟩ | ⟨rfl, hq, HE⟩ | ⟨rfl, hq, hq2, HE⟩ | ⟨rfl, hq, hq2, HE⟩
      · have HF := hid HE
        clear HE
        simp only [Bool.false_eq_true, if_false] at c1
        go_wp2_with (go_at_call 88; refine (c1 _).mono ?_; rintro e w1 ⟨rfl, hb1⟩)
        go_roundw
        case rel => exact ⟨k + 1, C, S, by omega, by go_num, rfl, rfl, hC1, hC2, hS, on HR.out.1 (on b0 hb1), HF.out⟩
        case measure => simp [intOf]; omega
      all_goals (
        have HF := hid HE
        clear HE
        simp only [if_true] at c1
        go_wp2_with (go_at_call 88; refine (c1 _).mono ?_; rintro e w1 ⟨rfl, hb1⟩)
        go_roundw
        case rel => first
          | exact ⟨k + 1, k, D, by omega, by go_num, rfl, rfl, by omega, by omega, hdl, on HR.out.1 (on b0 hb1), HF.out⟩
          | exact ⟨k + 1, C, S, by omega, by go_num, rfl, rfl, hC1, hC2, hS, on HR.out.1 (on b0 hb1), HF.out⟩
        case measure => simp [intOf]; omega)
    · have hk2 : k = n := by omega
      subst hk2
      go_wp2_with fail
      go_ret
      exact ⟨by rw [HR.out.2]; rfl, HR.out.1⟩

end Go.Proofs.Ythlfmbijagpggaa.Sr
