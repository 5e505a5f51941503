/-
  What the document's May and Same do: contracts over plain numbers.
  Conditions: rows that are looked at lie in memory.
-/
import Derived.Test.YtkdjjmjfpembpaaMxCheck
import Derived.Test.YtkdjjmjfpembpaaGfSame
namespace Go.Proofs.Ytkdjjmjfpembpaa
open Go.RowKit Gf
set_option linter.unusedVariables false

theorem may_out (x : Option Addr) (n c : Nat) (w : World) (h : n = 0 ∨ 255 < n) :
    Calls Try.prog 14 #[.slice x n c] w fun e w' => e = .returned (.bool false) ∧ w' = w := by
  rcases h with h | h
  · subst h
    go_enter Try.func14, Try.ntmps14
    go_wp2_with fail
    go_ret
    exact ⟨rfl, rfl⟩
  · have h1 : ¬ ((n : Int) < 1) := by omega
    have h2 : (255 : Int) < (n : Int) := by omega
    go_enter Try.func14, Try.ntmps14
    go_wp2_with fail
    go_ret
    exact ⟨rfl, rfl⟩

set_option maxHeartbeats 1000000 in
set_option maxRecDepth 100000 in
theorem may_rows (b o n c : Nat) (z : Bool) (A : Nat → Option Addr) (L C : Nat → Nat) (w : World) (h1 : 1 ≤ n) (h2 : n ≤ 255) (ht : ∀ r, r < n → w.cell? ⟨b, o + r, none⟩ = some (.slice (A r) (L r) (C r)))
    (hy : (∀ r, r < n → 1 ≤ L r ∧ L r ≤ 255 ∧ L r = L 0) → z = true) (hx : ∀ r, r < n → ¬ (1 ≤ L r ∧ L r ≤ 255 ∧ L r = L 0) → z = false) :
    Calls Try.prog 14 #[.slice (some ⟨b, o, none⟩) n c] w fun e w' => e = .returned (.bool z) ∧ ∃ m, w' = w.drewN m := by
  have hn1 : ¬ ((n : Int) < 1) := by omega
  have hn2 : ¬ ((255 : Int) < (n : Int)) := by omega
  have h0 : w.cell? ⟨b, o, none⟩ = some (.slice (A 0) (L 0) (C 0)) := ht 0 (by omega)
  have hn : (0 : Int) < (n : Int) := by omega
  go_enter Try.func14, Try.ntmps14
  go_wp2_with fail
  go_loopw [3] (fun i wr => ∃ k : Nat, k ≤ n ∧ i = .int .i64 k ∧ Hid (∃ m, wr = w.drewN m) ∧ Hid (∀ r, r < k → 1 ≤ L r ∧ L r ≤ 255 ∧ L r = L 0)) (fun i _ => n - (intOf i).toNat)
  case atStart => exact ⟨0, by omega, rfl, ⟨0, rfl⟩, fun r hr => by omega⟩
  case round =>
    obtain ⟨k, hk, rfl, HW, HA⟩ := hrel
    by_cases hlt : k < n
    · have htk : wr.cell? ⟨b, o + k, none⟩ = some (.slice (A k) (L k) (C k)) := by obtain ⟨m, hm⟩ := HW.out; rw [hm]; exact ht k hlt
      have ht0 : wr.cell? ⟨b, o, none⟩ = some (.slice (A 0) (L 0) (C 0)) := by obtain ⟨m, hm⟩ := HW.out; rw [hm]; exact h0
      have hkn : (k : Int) < (n : Int) := by omega
      by_cases e1 : L k < 1
      · have g1 : decide ((L k : Int) < 1) = true := by simp; omega
        have HZ : Hid (z = false) := hx k hlt (by omega)
        clear ht hy hx HA e1 h0
        go_wp2_with fail
        go_region
        go_wp2_with fail
        go_ret
        exact ⟨by rw [HZ.out]; rfl, drewN_more (n := 1) HW.out⟩
      · have g1 : decide ((L k : Int) < 1) = false := by simp; omega
        by_cases e2 : 255 < L k
        · have g2 : decide ((255 : Int) < (L k : Int)) = true := by simp; omega
          have HZ : Hid (z = false) := hx k hlt (by omega)
          clear ht hy hx HA e1 e2 h0
          go_wp2_with fail
          go_region
          go_wp2_with fail
          go_ret
          exact ⟨by rw [HZ.out]; rfl, drewN_more (n := 1) HW.out⟩
        · have g2 : decide ((255 : Int) < (L k : Int)) = false := by simp; omega
          by_cases e3 : L k = L 0
          · have g3 : ((L k : Int) != (L 0 : Int)) = false := by rw [e3]; simp
            have HA2 : Hid (∀ r, r < k + 1 → 1 ≤ L r ∧ L r ≤ 255 ∧ L r = L 0) := fun r hr => by
              by_cases e2 : r = k
              · subst e2; exact ⟨by omega, by omega, e3⟩
              · exact HA.out r (by omega)
            clear ht hy hx HA e1 e2 e3 h0
            go_wp2_with fail
            go_region
            go_wp2_with fail
            go_roundw
            case rel => exact ⟨k + 1, by omega, by go_num, drewN_more (n := 1) HW.out, HA2⟩
            case measure => simp [intOf]; omega
          · have g3 : ((L k : Int) != (L 0 : Int)) = true := by simp; omega
            have HZ : Hid (z = false) := hx k hlt (by omega)
            clear ht hy hx HA e1 e2 e3 h0
            go_wp2_with fail
            go_region
            go_wp2_with fail
            go_ret
            exact ⟨by rw [HZ.out]; rfl, drewN_more (n := 1) HW.out⟩
    · have hk2 : k = n := by omega
      subst hk2
      have HZ : Hid (z = true) := hy HA.out
      clear ht hy hx HA h0
      go_wp2_with fail
      go_ret
      exact ⟨by rw [HZ.out]; rfl, HW.out⟩

theorem may_any (x : Option Addr) (n c : Nat) (z : Bool) (A : Nat → Option Addr) (L C : Nat → Nat) (w : World) (h : Tops w x n A L C) (hy : MayN n L → z = true) (hx : ¬ MayN n L → z = false) :
    Calls Try.prog 14 #[.slice x n c] w fun e w' => e = .returned (.bool z) ∧ ∃ m, w' = w.drewN m := by
  by_cases h1 : n = 0 ∨ 255 < n
  · rw [hx (fun k => by unfold MayN at k; omega)]
    exact (may_out x n c w h1).mono fun e w' h => ⟨h.1, 0, h.2⟩
  · rcases h with h | ⟨b, o, rfl, _, ht⟩
    · omega
    · exact may_rows b o n c z A L C w (by omega) (by omega) ht (fun k => hy ⟨by omega, by omega, (k 0 (by omega)).1, (k 0 (by omega)).2.1, fun r hr => (k r hr).2.2⟩) (fun r hr e => hx (fun k => e (by have := k.2.2.2.2 r hr; have := k.2.2; omega)))

end Go.Proofs.Ytkdjjmjfpembpaa
