/-
  For any bytes, any place and any pattern of 32 bits, the sum of the bytes with the pattern's bits turned from that place on is another one just if a bit was turned: 'mooringlaw04.SumBursts' returns true and leaves its arguments as they were.
  Conditions: none.
-/
import Derived.Test.YthfdfebeemakkaaRows
import Derived.WalkKit
import Derived.ProofKit
import Derived.OpenShut
import Derived.SizedLaws
import Derived.ShutString
import Derived.ChangeOld
import Derived.Below
import Derived.Test.YthfdfebeemakkaaByRows
import Derived.Test.YthfdfebeemakkaaSuStrip
namespace Go.Proofs.Ythfdfebeemakkaa.sumBursts
open Go.ChangeShapes Go.WideShapes Go.ChangeAt Go.RowKit By
open Su
set_option linter.unusedVariables false
set_option linter.unusedSimpArgs false

theorem own : ownKnob Try.prog.godebug = none := by kernel_rfl
theorem laidOut : laidOutB Try.prog = true := by kernel_rfl

theorem rest (a : Option Addr) (len cap : Nat) (f : Nat → Nat) (a1 x : Int) (w : World) (h : len = 0 ∨ x = 0) :
    Calls Try.prog 6 #[.slice a len cap, .int .i64 a1, .int .u32 x] w fun e w' => e = .returned (.bool true) ∧ Below w.heap.size w w' := by
  by_cases h0 : len = 0
  · subst h0
    clear h
    go_enter Try.func6, Try.ntmps6
    go_wp2_with (go_at_call 12; refine (awake_any _).mono ?_; rintro e x6 ⟨rfl, hb6⟩)
    go_ret
    exact ⟨rfl, hb6⟩
  · have hx : x = 0 := by rcases h with h | h; exact absurd h h0; exact h
    subst hx
    have g0 : ((len : Int) == 0) = false := by simp; omega
    clear h
    go_enter Try.func6, Try.ntmps6
    go_wp2_with (go_at_call 12; refine (awake_any _).mono ?_; rintro e x6 ⟨rfl, hb6⟩)
    go_ret
    exact ⟨rfl, hb6⟩

structure Inv (w wr : World) (g n F x k : Nat) (f : Nat → Nat) (t : Bool) (h : Nat → Nat) : Prop where
  lt : ∀ i, h i < 256
  below : Below w.heap.size w wr
  fresh : w.heap.size ≤ g ∧ g < wr.heap.size
  cell : ∀ i, i < n → wr.cell? ⟨g, i, none⟩ = some (.int .u8 (h i : Int))
  frozen : ∀ i, wr.frozen? ⟨g, i, none⟩ = false
  big : big h n = Su.big f n ^^^ win x F k
  told : t = true ↔ win x 0 k ≠ 0

theorem Inv.step {w wr : World} {g n F x k : Nat} {f : Nat → Nat} {q : Bool} {h : Nat → Nat} (hI : Inv w wr g n F x k f q h) (hp : (F + k) / 8 < n) (hbit : x / 2 ^ k % 2 = 1) :
    Inv w (wr.setCell ⟨g, (F + k) / 8, none⟩ (.int .u8 ((h ((F + k) / 8) ^^^ 2 ^ ((F + k) % 8) : Nat) : Int))) g n F x (k + 1) f true (turn h ((F + k) / 8) ((F + k) % 8)) := by
  have h256 : 2 ^ ((F + k) % 8) < 256 := by
    rw [show (256 : Nat) = 2 ^ 8 from rfl]
    exact Nat.pow_lt_pow_right (by omega) (by omega)
  refine ⟨fun i => ?_, hI.below.trans ⟨rfl, rfl, rfl, by simp [World.setCell], fun j hj => Below.heap_setCell _ _ _ _ (by have := hI.fresh.1; show j ≠ g; omega)⟩, ⟨hI.fresh.1, by have := hI.fresh.2; simpa [World.setCell] using this⟩, fun i hi => ?_, fun i => ?_, ?_, ?_⟩
  · unfold turn
    split
    · exact xor8 (hI.lt i) h256
    · exact hI.lt i
  · by_cases e : i = (F + k) / 8
    · subst e
      rw [World.cell?_setCell_same _ _ _ (hI.cell _ hp)]
      unfold turn
      rw [if_pos rfl]
    · rw [World.cell?_setCell_other _ _ _ _ (fun h => e (by injection h with _ h2 _; exact h2.symm)), hI.cell i hi]
      unfold turn
      rw [if_neg e]
  · rw [World.frozen?_setCell]
    exact hI.frozen i
  · rw [big_turn _ _ _ _ hp, hI.big, Nat.xor_assoc]
    congr 1
    rw [win, if_pos hbit]
    congr 2
    omega
  · have := win_succ_ne x k hbit
    simp [this]

theorem Inv.keep {w wr : World} {g n F x k : Nat} {f : Nat → Nat} {q : Bool} {h : Nat → Nat} (hI : Inv w wr g n F x k f q h) (hbit : ¬ x / 2 ^ k % 2 = 1) : Inv w wr g n F x (k + 1) f q h := by
  refine ⟨hI.lt, hI.below, hI.fresh, hI.cell, hI.frozen, ?_, ?_⟩
  · rw [win, if_neg hbit, Nat.xor_zero]
    exact hI.big
  · rw [win_succ_eq x k hbit]
    exact hI.told

set_option maxHeartbeats 1000000 in
set_option maxRecDepth 100000 in
theorem main (b o n cap x F N8 : Nat) (a1 G : Int) (f : Nat → Nat) (w : World) (g0 : ((n : Int) == 0) = false) (g1 : ((x : Int) == 0) = false) (hx : x < 4294967296) (hn : n ≤ 140737488351232) (hf : ∀ i, f i < 256) (hr : RowAt w (some ⟨b, o, none⟩) n f)
    (h8 : (8 : Int) * (n : Int) = (N8 : Int)) (hN : N8 ≤ 1125899906809856) (hN0 : 0 < N8) (hrem : a1.tmod (N8 : Int) = G) (hG : G < 0) (hadd : G + (N8 : Int) = (F : Int)) (hF : F < N8) :
    Calls Try.prog 6 #[.slice (some ⟨b, o, none⟩) n cap, .int .i64 a1, .int .u32 x] w fun e w' => e = .returned (.bool true) ∧ Below w.heap.size w w' := by
  obtain ⟨g, cy, w1, hrun, hb1, hown, hg1, hg2, hc1, hrow⟩ := bytes_copy w (some ⟨b, o, none⟩) n cap f hr (fun h => by cases h) (by omega)
  have hcy : n ≤ cy := by
    rcases hown.2 with ⟨h, _⟩ | ⟨g', c', cur, h, _, hh, hc, _⟩
    · simp at h
    · simp at h
      omega
  have HI : Hid (Inv w w1 g n F x 0 f false f) := ⟨hf, hb1, ⟨hg1, hg2⟩, fun i hi => by have := hc1 i hi; rwa [Nat.zero_add] at this, fun i => hown.frozenAt i, by simp [win], by simp [win]⟩
  clear hb1 hown hg1 hg2 hc1 hrow
  go_enter Try.func6, Try.ntmps6
  go_wp2_with (at_builtin; refine wpList_append_run rfl _ _ 22 rfl _ _ rfl rfl hrun ?_; clear hrun)
  go_loopw [10, 11] (fun t i wr => ∃ (k : Nat) (q : Bool), k ≤ 32 ∧ F + k ≤ N8 ∧ i = .int .i64 k ∧ t = .bool q ∧ Hid (∃ h, Inv w wr g n F x k f q h)) (fun _ i _ => 32 - (intOf i).toNat)
  case atStart => exact ⟨0, false, by omega, by omega, rfl, rfl, f, HI.out⟩
  case round =>
    obtain ⟨k, q, hk, hFk, rfl, rfl, HW⟩ := hrel
    clear HI
    by_cases hlt : k < 32 ∧ F + k < N8
    · have hp8 : (F + k) / 8 < n := by omega
      by_cases hbit : x / 2 ^ k % 2 = 1
      · have hm : ((x : Int) / 2 ^ k).tmod 2 = 1 := by
          rw [show ((x : Int) / 2 ^ k) = ((x / 2 ^ k : Nat) : Int) by simp, Int.tmod_eq_emod_of_nonneg (by exact Int.natCast_nonneg _)]
          omega
        obtain ⟨V, hV2, hfr, HS⟩ : ∃ V : Nat, wr.cell? ⟨g, (F + k) / 8, none⟩ = some (.int .u8 (V : Int)) ∧ wr.frozen? ⟨g, (F + k) / 8, none⟩ = false ∧
            Hid (∃ h, Inv w (wr.setCell ⟨g, (F + k) / 8, none⟩ (.int .u8 (bits .xor .u8 (V : Int) (2 ^ ((F + k) % 8) % 256)))) g n F x (k + 1) f true h) := by
          obtain ⟨h, HI⟩ := HW.out
          refine ⟨h ((F + k) / 8), HI.cell _ hp8, HI.frozen _, turn h ((F + k) / 8) ((F + k) % 8), ?_⟩
          have h256 : 2 ^ ((F + k) % 8) < 256 := by
            rw [show (256 : Nat) = 2 ^ 8 from rfl]
            exact Nat.pow_lt_pow_right (by omega) (by omega)
          have e : ((2 : Int) ^ ((F + k) % 8) % 256) = ((2 ^ ((F + k) % 8) : Nat) : Int) := by
            generalize (F + k) % 8 = r at *
            rw [Int.natCast_pow]
            have : ((2 ^ r : Nat) : Int) < 256 := by omega
            rw [Int.natCast_pow] at this
            exact Int.emod_eq_of_lt (Int.pow_nonneg (by decide)) this
          rw [e, u8_xor_nat _ _ (HI.lt _) h256]
          exact HI.step hp8 hbit
        clear hbit HW hf hr
        go_wp2_with fail
        go_roundw
        case rel => exact ⟨k + 1, true, by omega, by omega, by go_num, rfl, HS⟩
        case measure => simp [intOf]; omega
      · have hm : ((x : Int) / 2 ^ k).tmod 2 = 0 := by
          rw [show ((x : Int) / 2 ^ k) = ((x / 2 ^ k : Nat) : Int) by simp, Int.tmod_eq_emod_of_nonneg (by exact Int.natCast_nonneg _)]
          omega
        have HS : Hid (∃ h, Inv w wr g n F x (k + 1) f q h) := by
          obtain ⟨h, HI⟩ := HW.out
          exact ⟨h, HI.keep hbit⟩
        clear hbit HW hf hr
        go_wp2_with fail
        go_roundw
        case rel => exact ⟨k + 1, q, by omega, by omega, by go_num, rfl, HS⟩
        case measure => simp [intOf]; omega
    · obtain ⟨A, B, hof1, hof2, hab, HB⟩ : ∃ A B : Nat, (Calls Try.prog 7 #[.slice (some ⟨g, 0, none⟩) n cy] wr fun e w' => e = .returned (.int .u32 (A : Int)) ∧ w' = wr) ∧
          (Calls Try.prog 7 #[.slice (some ⟨b, o, none⟩) n cap] wr fun e w' => e = .returned (.int .u32 (B : Int)) ∧ w' = wr) ∧ ((A : Int) != (B : Int)) = q ∧ Hid (Below w.heap.size w wr) := by
        obtain ⟨h, HI⟩ := HW.out
        refine ⟨sumOf h n, sumOf f n, of_any n cy _ h wr HI.lt (by omega) (.inr ⟨g, 0, rfl, HI.fresh.2, fun i hi => by rw [Nat.zero_add]; exact HI.cell i hi⟩), of_any n cap _ f wr hf (by omega) (hr.below HI.below), ?_, HI.below⟩
        have hbu := burst f h n x F k hk (by omega) HI.big
        have ht := HI.told
        by_cases e : win x 0 k = 0
        · have e2 := hbu.2 e
          rw [e2]
          cases q
          · simp
          · exact absurd e (ht.1 rfl)
        · have e2 : ¬ sumOf h n = sumOf f n := fun q2 => e (hbu.1 q2)
          have e3 := ht.2 e
          rw [e3]
          simp
          omega
      clear HW hf hr
      by_cases hk32 : k < 32
      · have hge : ¬ F + k < N8 := fun q2 => hlt ⟨hk32, q2⟩
        clear hlt
        go_wp2_with (first
          | (go_at_call 7; refine hof1.mono ?_; rintro e w' ⟨rfl, rfl⟩; clear hof1)
          | (go_at_call 7; refine hof2.mono ?_; rintro e w' ⟨rfl, rfl⟩; clear hof2)
          | (go_at_call 12; refine (awake_any _).mono ?_; rintro e x6 ⟨rfl, hb6⟩))
        go_ret
        exact ⟨rfl, HB.out.trans (hb6.mono HB.out.size)⟩
      · clear hlt
        go_wp2_with (first
          | (go_at_call 7; refine hof1.mono ?_; rintro e w' ⟨rfl, rfl⟩; clear hof1)
          | (go_at_call 7; refine hof2.mono ?_; rintro e w' ⟨rfl, rfl⟩; clear hof2)
          | (go_at_call 12; refine (awake_any _).mono ?_; rintro e x6 ⟨rfl, hb6⟩))
        go_ret
        exact ⟨rfl, HB.out.trans (hb6.mono HB.out.size)⟩

set_option maxHeartbeats 1000000 in
set_option maxRecDepth 100000 in
theorem main2 (b o n cap x F N8 : Nat) (a1 : Int) (f : Nat → Nat) (w : World) (g0 : ((n : Int) == 0) = false) (g1 : ((x : Int) == 0) = false) (hx : x < 4294967296) (hn : n ≤ 140737488351232) (hf : ∀ i, f i < 256) (hr : RowAt w (some ⟨b, o, none⟩) n f)
    (h8 : (8 : Int) * (n : Int) = (N8 : Int)) (hN : N8 ≤ 1125899906809856) (hN0 : 0 < N8) (hrem : a1.tmod (N8 : Int) = (F : Int)) (hF : F < N8) :
    Calls Try.prog 6 #[.slice (some ⟨b, o, none⟩) n cap, .int .i64 a1, .int .u32 x] w fun e w' => e = .returned (.bool true) ∧ Below w.heap.size w w' := by
  obtain ⟨g, cy, w1, hrun, hb1, hown, hg1, hg2, hc1, hrow⟩ := bytes_copy w (some ⟨b, o, none⟩) n cap f hr (fun h => by cases h) (by omega)
  have hcy : n ≤ cy := by
    rcases hown.2 with ⟨h, _⟩ | ⟨g', c', cur, h, _, hh, hc, _⟩
    · simp at h
    · simp at h
      omega
  have HI : Hid (Inv w w1 g n F x 0 f false f) := ⟨hf, hb1, ⟨hg1, hg2⟩, fun i hi => by have := hc1 i hi; rwa [Nat.zero_add] at this, fun i => hown.frozenAt i, by simp [win], by simp [win]⟩
  clear hb1 hown hg1 hg2 hc1 hrow
  go_enter Try.func6, Try.ntmps6
  go_wp2_with (at_builtin; refine wpList_append_run rfl _ _ 22 rfl _ _ rfl rfl hrun ?_; clear hrun)
  go_loopw [10, 11] (fun t i wr => ∃ (k : Nat) (q : Bool), k ≤ 32 ∧ F + k ≤ N8 ∧ i = .int .i64 k ∧ t = .bool q ∧ Hid (∃ h, Inv w wr g n F x k f q h)) (fun _ i _ => 32 - (intOf i).toNat)
  case atStart => exact ⟨0, false, by omega, by omega, rfl, rfl, f, HI.out⟩
  case round =>
    obtain ⟨k, q, hk, hFk, rfl, rfl, HW⟩ := hrel
    clear HI
    by_cases hlt : k < 32 ∧ F + k < N8
    · have hp8 : (F + k) / 8 < n := by omega
      by_cases hbit : x / 2 ^ k % 2 = 1
      · have hm : ((x : Int) / 2 ^ k).tmod 2 = 1 := by
          rw [show ((x : Int) / 2 ^ k) = ((x / 2 ^ k : Nat) : Int) by simp, Int.tmod_eq_emod_of_nonneg (by exact Int.natCast_nonneg _)]
          omega
        obtain ⟨V, hV2, hfr, HS⟩ : ∃ V : Nat, wr.cell? ⟨g, (F + k) / 8, none⟩ = some (.int .u8 (V : Int)) ∧ wr.frozen? ⟨g, (F + k) / 8, none⟩ = false ∧
            Hid (∃ h, Inv w (wr.setCell ⟨g, (F + k) / 8, none⟩ (.int .u8 (bits .xor .u8 (V : Int) (2 ^ ((F + k) % 8) % 256)))) g n F x (k + 1) f true h) := by
          obtain ⟨h, HI⟩ := HW.out
          refine ⟨h ((F + k) / 8), HI.cell _ hp8, HI.frozen _, turn h ((F + k) / 8) ((F + k) % 8), ?_⟩
          have h256 : 2 ^ ((F + k) % 8) < 256 := by
            rw [show (256 : Nat) = 2 ^ 8 from rfl]
            exact Nat.pow_lt_pow_right (by omega) (by omega)
          have e : ((2 : Int) ^ ((F + k) % 8) % 256) = ((2 ^ ((F + k) % 8) : Nat) : Int) := by
            generalize (F + k) % 8 = r at *
            rw [Int.natCast_pow]
            have : ((2 ^ r : Nat) : Int) < 256 := by omega
            rw [Int.natCast_pow] at this
            exact Int.emod_eq_of_lt (Int.pow_nonneg (by decide)) this
          rw [e, u8_xor_nat _ _ (HI.lt _) h256]
          exact HI.step hp8 hbit
        clear hbit HW hf hr
        go_wp2_with fail
        go_roundw
        case rel => exact ⟨k + 1, true, by omega, by omega, by go_num, rfl, HS⟩
        case measure => simp [intOf]; omega
      · have hm : ((x : Int) / 2 ^ k).tmod 2 = 0 := by
          rw [show ((x : Int) / 2 ^ k) = ((x / 2 ^ k : Nat) : Int) by simp, Int.tmod_eq_emod_of_nonneg (by exact Int.natCast_nonneg _)]
          omega
        have HS : Hid (∃ h, Inv w wr g n F x (k + 1) f q h) := by
          obtain ⟨h, HI⟩ := HW.out
          exact ⟨h, HI.keep hbit⟩
        clear hbit HW hf hr
        go_wp2_with fail
        go_roundw
        case rel => exact ⟨k + 1, q, by omega, by omega, by go_num, rfl, HS⟩
        case measure => simp [intOf]; omega
    · obtain ⟨A, B, hof1, hof2, hab, HB⟩ : ∃ A B : Nat, (Calls Try.prog 7 #[.slice (some ⟨g, 0, none⟩) n cy] wr fun e w' => e = .returned (.int .u32 (A : Int)) ∧ w' = wr) ∧
          (Calls Try.prog 7 #[.slice (some ⟨b, o, none⟩) n cap] wr fun e w' => e = .returned (.int .u32 (B : Int)) ∧ w' = wr) ∧ ((A : Int) != (B : Int)) = q ∧ Hid (Below w.heap.size w wr) := by
        obtain ⟨h, HI⟩ := HW.out
        refine ⟨sumOf h n, sumOf f n, of_any n cy _ h wr HI.lt (by omega) (.inr ⟨g, 0, rfl, HI.fresh.2, fun i hi => by rw [Nat.zero_add]; exact HI.cell i hi⟩), of_any n cap _ f wr hf (by omega) (hr.below HI.below), ?_, HI.below⟩
        have hbu := burst f h n x F k hk (by omega) HI.big
        have ht := HI.told
        by_cases e : win x 0 k = 0
        · have e2 := hbu.2 e
          rw [e2]
          cases q
          · simp
          · exact absurd e (ht.1 rfl)
        · have e2 : ¬ sumOf h n = sumOf f n := fun q2 => e (hbu.1 q2)
          have e3 := ht.2 e
          rw [e3]
          simp
          omega
      clear HW hf hr
      by_cases hk32 : k < 32
      · have hge : ¬ F + k < N8 := fun q2 => hlt ⟨hk32, q2⟩
        clear hlt
        go_wp2_with (first
          | (go_at_call 7; refine hof1.mono ?_; rintro e w' ⟨rfl, rfl⟩; clear hof1)
          | (go_at_call 7; refine hof2.mono ?_; rintro e w' ⟨rfl, rfl⟩; clear hof2)
          | (go_at_call 12; refine (awake_any _).mono ?_; rintro e x6 ⟨rfl, hb6⟩))
        go_ret
        exact ⟨rfl, HB.out.trans (hb6.mono HB.out.size)⟩
      · clear hlt
        go_wp2_with (first
          | (go_at_call 7; refine hof1.mono ?_; rintro e w' ⟨rfl, rfl⟩; clear hof1)
          | (go_at_call 7; refine hof2.mono ?_; rintro e w' ⟨rfl, rfl⟩; clear hof2)
          | (go_at_call 12; refine (awake_any _).mono ?_; rintro e x6 ⟨rfl, hb6⟩))
        go_ret
        exact ⟨rfl, HB.out.trans (hb6.mono HB.out.size)⟩

theorem walk (a : Option Addr) (len cap : Nat) (f : Nat → Nat) (a1 x : Int) (w : World) (w0 : BytesIn w a len cap f) (w1 : (Lit.int .i64 a1).wf = true) (w2 : (Lit.int .u32 x).wf = true) :
    Calls Try.prog 6 #[.slice a len cap, .int .i64 a1, .int .u32 x] w fun e w' => e = .returned (.bool true) ∧ Below w.heap.size w w' := by
  by_cases h : len = 0 ∨ x = 0
  · exact rest a len cap f a1 x w h
  · have hx := bounds_u32 w2
    obtain ⟨X, rfl⟩ : ∃ X : Nat, x = X := ⟨x.toNat, by omega⟩
    obtain ⟨b, o, rfl, _⟩ : ∃ b o, a = some ⟨b, o, none⟩ ∧ True := by
      rcases w0.row with h' | ⟨b, o, h', _⟩
      · exact absurd (.inl h') h
      · exact ⟨b, o, h', trivial⟩
    have hl := w0.le
    have hs := w0.small
    have g0 : ((len : Int) == 0) = false := by simp; omega
    have g1 : ((X : Int) == 0) = false := by simp; omega
    have h8 : (8 : Int) * (len : Int) = ((8 * len : Nat) : Int) := by omega
    have hp : (0 : Int) < ((8 * len : Nat) : Int) := by omega
    have h1 := Int.tmod_lt_of_pos a1 hp
    have h2 : -((8 * len : Nat) : Int) < a1.tmod ((8 * len : Nat) : Int) := by
      have := Int.tmod_lt_of_pos (-a1) hp
      rw [Int.neg_tmod] at this
      omega
    obtain ⟨N8, hN8⟩ : ∃ N8, N8 = 8 * len := ⟨_, rfl⟩
    rw [← hN8] at h8 h1 h2
    by_cases hneg : a1.tmod (N8 : Int) < 0
    · exact main b o len cap X (a1.tmod (N8 : Int) + N8).toNat N8 a1 (a1.tmod (N8 : Int)) f w g0 g1 (by omega) (by omega) w0.lt w0.row h8 (by omega) (by omega) rfl hneg (by omega) (by omega)
    · exact main2 b o len cap X (a1.tmod (N8 : Int)).toNat N8 a1 f w g0 g1 (by omega) (by omega) w0.lt w0.row h8 (by omega) (by omega) (by omega) (by omega)

set_option maxRecDepth 100000 in
theorem lifted (os : Os) (started : os.Started) (H : Type) (enc : TypeId × Value → H) :
    ReturnsInHanded {} Try.checked os 6 .any (Rows.sumBurstsSpec.pre6 enc Try.prog Try.f6 Rows.sumBurstsRow.domain false) (Rows.sumBurstsSpec.post enc Try.prog Try.f6 false true false false) := by
  refine returnsInHanded_of_change_sized (C := Try.checked) own started (by kernel_rfl) Try.func6
    (ChangeSpec.witness6 (enc := enc) (C := Try.checked) false ⟨#[], #[.slice none 0 0, .int .i64 0, .int .u32 0], []⟩ 8 (by kernel_rfl) (by kernel_rfl) (by kernel_rfl) (by kernel_rfl)) ?_
  intro W base args ds gs before hval0 hW hcnd hsz0 _
  have hsz : (DataW.weightsEach Try.prog (Try.f6.params.toList ++ Rows.sumBurstsSpec.plain.varTypes Try.prog) (ds ++ gs)).all (· ≤ reachBytes) = true := hsz0
  have hval : ∀ (j : Nat) t v, Try.f6.params[j]? = some t → args[j]? = some v → Value.okWide Try.prog W .any base t v := hval0
  have hW' := hW
  obtain ⟨p, q, hA0, hV, rfl, hfz, hnd⟩ := hW
  have hA : DataW.TrodAll enc Try.prog W 0 (fun _ => true) true Try.f6.params.toList args.toList ds p := hA0
  rw [Try.params6] at hA hval hsz
  obtain ⟨v0, vs0, d0, ds0, p0, q0, hargs, rfl, rfl, h0, r0⟩ := trodAll_cons hA
  obtain ⟨v1, vs1, d1, ds1, p1, q1, rfl, rfl, rfl, h1, r1⟩ := trodAll_cons r0
  obtain ⟨v2, vs2, d2, ds2, p2, q2, rfl, rfl, rfl, h2, r2⟩ := trodAll_cons r1
  obtain ⟨rfl, rfl, rfl⟩ := trodAll_nil r2
  obtain rfl : args = #[v0, v1, v2] := by cases args; simp_all
  obtain ⟨rfl, rfl⟩ := trodVars_none hV
  have k0 := h0
  have lt0 : ∀ x ∈ p0, x.block < W.heap.size := by obtain ⟨m, hm⟩ := k0; exact DataW.trod_lt m _ _ _ hm
  have s0 : ∀ x ∈ d0.weights Try.prog 22, x ≤ reachBytes := fun x hx => by
    have := List.all_eq_true.1 hsz x (DataW.weights_mem_each (j := 0) rfl rfl x hx)
    simpa using this
  obtain ⟨b0, nn0, cc0, rfl⟩ := okWide_slice Try.underlying22 (hval 0 22 v0 rfl rfl)
  obtain ⟨fu0, hf0⟩ := h0
  obtain ⟨a0, len0, cap0, f0, e0, w0⟩ := bytes_in hf0 s0
  simp [Value.cells] at e0
  obtain ⟨rfl, rfl, rfl⟩ := e0
  obtain ⟨a1, rfl, rfl, rfl, w1⟩ := open_int Try.underlying3 (hval 1 3 v1 rfl rfl) h1
  obtain ⟨a2, rfl, rfl, rfl, w2⟩ := open_int Try.underlying23 (hval 2 23 v2 rfl rfl) h2
  clear hA0 hval0
  refine (walk b0 nn0 cc0 f0 a1 a2 W w0 w1 w2).mono fun e W' ⟨he, bel⟩ => ?_
  subst he
  exact ⟨_, rfl, _, _, _, [], _, [], hW', trodAll_mk1 (shut_bool Try.underlying4 _), (trodAll_cons_mk (Below.trod laidOut (by kernel_rfl) (of_decide_eq_true (by kernel_rfl)) k0 bel lt0) (trodAll_cons_mk (shut_int Try.underlying3 w1) (trodAll_cons_mk (shut_int Try.underlying23 w2) trodAll_mk0))), rfl, bel.frame _, fun h => by cases h⟩

theorem over : Rows.sumBurstsRow.holds Try.pinned (OpenSpec.ofChange Rows.sumBurstsSpec) :=
  OpenClaim.holds_of_wide 6 Try.f6 rfl rfl rfl rfl rfl rfl rfl ⟨rfl, rfl, rfl, rfl, rfl⟩ rfl rfl rfl rfl rfl (by kernel_rfl) Try.func6 (by kernel_rfl)
    (of_decide_eq_true (by kernel_rfl)) (by unfold Func.isWrapper; first | (rw [if_pos (by decide +kernel)]; kernel_rfl) | (rw [if_neg (by decide +kernel)]; exact ⟨rfl, rfl⟩))
    (fun os started H enc _ => lifted os started H enc)

theorem proved : Rows.SumBurstsSaid := over
#print axioms proved
end Go.Proofs.Ythfdfebeemakkaa.sumBursts
