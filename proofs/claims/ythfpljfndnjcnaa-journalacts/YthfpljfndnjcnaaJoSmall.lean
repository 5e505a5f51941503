/-
  What the inner allZero and canBe of package journal do: contracts over plain numbers ('JoPlain').
  Conditions: bytes that are looked at lie in memory.
-/
import Derived.Test.YthfpljfndnjcnaaJoInv
import Derived.Test.YthfpljfndnjcnaaDkAwake
import Derived.Test.YthfpljfndnjcnaaMxOrders
import Derived.Laws.BitsAllLaws
namespace Go.Proofs.Ythfpljfndnjcnaa
open Go.RowKit By Dk Su Jo
set_option linter.unusedVariables false
set_option linter.unusedSimpArgs false

theorem allzero_any (x : Option Addr) (n c : Nat) (f : Nat → Nat) (t : Bool) (w : World) (h : RowAt w x n f) (hn : n ≤ 281474976710656) (hy : (∀ i, i < n → f i = 0) → t = true) (hx : ¬ (∀ i, i < n → f i = 0) → t = false) :
    Calls Try.prog 51 #[.slice x n c] w fun e w' => e = .returned (.bool t) ∧ w' = w := by
  have HY := hid hy
  have HX := hid hx
  clear hy hx
  rcases h with h0 | ⟨b, o, rfl, _, hc⟩
  · subst h0
    have ht := HY.out fun i hi => by omega
    go_enter Try.func51, Try.ntmps51
    go_wp2_with fail
    refine wp_loop_rounds 1 ?_
    rw [rounds_succ]
    go_wp2_with fail
    go_ret
    exact ⟨by rw [ht]; rfl, rfl⟩
  · go_enter Try.func51, Try.ntmps51
    go_wp2_with fail
    go_loop [7] (fun i => ∃ k : Nat, k ≤ n ∧ i = .int .i64 k ∧ Hid (∀ i, i < k → f i = 0)) (fun i => n - (intOf i).toNat)
    case atStart => exact ⟨0, by omega, rfl, fun i hi => by omega⟩
    case round =>
      obtain ⟨k, hk, rfl, HK⟩ := hrel
      by_cases hlt : k < n
      · have c1 := hc k hlt
        have hlt' : (k : Int) < (n : Int) := by omega
        by_cases e : f k = 0
        · have HN : Hid (∀ i, i < k + 1 → f i = 0) := fun i hi => by
            rcases Nat.lt_or_ge i k with h | h
            · exact HK.out i h
            · obtain rfl : i = k := by omega
              exact e
          rw [e] at c1
          clear hc e
          go_wp2_with fail
          go_round
          case rel => exact ⟨k + 1, by omega, by go_num, HN⟩
          case measure => simp [intOf]; omega
        · have ht := HX.out fun h => e (h k hlt)
          have e' : ((f k : Int) != 0) = true := by simpa using e
          clear hc
          generalize f k = v at *
          go_wp2_with fail
          go_ret
          first | exact ⟨rfl, rfl⟩ | exact ⟨by rw [ht]; rfl, rfl⟩
      · obtain rfl : k = n := by omega
        have ht := HY.out HK.out
        clear hc
        go_wp2_with fail
        go_ret
        first | exact ⟨rfl, rfl⟩ | exact ⟨by rw [ht]; rfl, rfl⟩

theorem canbe_any (p n : Nat) (l t : Bool) (w : World) (hp : p < 1000) (hn : n < 1000) (ht : canB p n l ↔ t = true) :
    Calls Try.prog 50 #[.int .i64 p, .int .i64 n, .bool l] w fun e w' => e = .returned (.bool t) ∧ w' = w := by
  cases l with
  | false =>
    have ht : (n = 51 ∧ p + 1 < 255) ↔ t = true := by rw [← ht]; simp [canB]
    by_cases h1 : n = 51
    · subst h1
      by_cases h2 : p + 1 < 255
      · have e := ht.1 ⟨rfl, h2⟩
        subst e
        have h2' : (p : Int) + 1 < 255 := by omega
        clear ht
        go_enter Try.func50, Try.ntmps50
        go_wp2_with fail
        go_ret
        exact ⟨by simp [h2'], rfl⟩
      · have e : t = false := by cases t; rfl; exact absurd (ht.2 rfl).2 h2
        subst e
        have h2' : ¬ (p : Int) + 1 < 255 := by omega
        clear ht
        go_enter Try.func50, Try.ntmps50
        go_wp2_with fail
        go_ret
        exact ⟨by simp [h2'], rfl⟩
    · have e : t = false := by cases t; rfl; exact absurd (ht.2 rfl).1 h1
      subst e
      have h1' : ((n : Int) == 51) = false := by
        rw [beq_eq_false_iff_ne]
        omega
      clear ht
      go_enter Try.func50, Try.ntmps50
      go_wp2_with fail
      go_ret
      exact ⟨rfl, rfl⟩
  | true =>
    have ht : (n ≤ 51 ∧ p < 255 ∧ (0 < n ∨ p = 0)) ↔ t = true := by rw [← ht]; simp [canB]
    by_cases h1 : n ≤ 51
    · have h1' : (n : Int) ≤ 51 := by omega
      by_cases h2 : p < 255
      · have h2' : (p : Int) < 255 := by omega
        by_cases h3 : 0 < n
        · have e := ht.1 ⟨h1, h2, .inl h3⟩
          subst e
          have h3' : (0 : Int) < n := by omega
          clear ht
          go_enter Try.func50, Try.ntmps50
          go_wp2_with fail
          go_ret
          exact ⟨rfl, rfl⟩
        · have h3' : ¬ (0 : Int) < n := by omega
          have et : t = decide (p = 0) := by
            by_cases e : p = 0
            · rw [ht.1 ⟨h1, h2, .inr e⟩]; simp [e]
            · have : t = false := by cases t; rfl; exact absurd (ht.2 rfl).2.2 (by omega)
              rw [this]; simp [e]
          subst et
          clear ht
          go_enter Try.func50, Try.ntmps50
          go_wp2_with fail
          go_ret
          refine ⟨?_, rfl⟩
          by_cases e : p = 0
          · subst e; rfl
          · simp [e]
      · have e : t = false := by cases t; rfl; exact absurd (ht.2 rfl).2.1 h2
        subst e
        have h2' : ¬ (p : Int) < 255 := by omega
        clear ht
        go_enter Try.func50, Try.ntmps50
        go_wp2_with fail
        go_ret
        exact ⟨rfl, rfl⟩
    · have e : t = false := by cases t; rfl; exact absurd (ht.2 rfl).1 h1
      subst e
      have h1' : ¬ (n : Int) ≤ 51 := by omega
      clear ht
      go_enter Try.func50, Try.ntmps50
      go_wp2_with fail
      go_ret
      exact ⟨rfl, rfl⟩

end Go.Proofs.Ythfpljfndnjcnaa
