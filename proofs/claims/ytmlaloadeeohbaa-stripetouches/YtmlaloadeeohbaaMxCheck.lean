/-
  What Check of package matrix does, and the laws' own errno and light: contracts over plain numbers.
  Conditions: rows that are looked at lie in memory.
-/
import Derived.Test.YtmlaloadeeohbaaMxZero
namespace Go.Proofs.Ytmlaloadeeohbaa
open Go.RowKit Gf
set_option linter.unusedVariables false

def Tops (w : World) (x : Option Addr) (n : Nat) (A : Nat → Option Addr) (L C : Nat → Nat) : Prop :=
  n = 0 ∨ ∃ b o, x = some ⟨b, o, none⟩ ∧ b < w.heap.size ∧ ∀ r, r < n → w.cell? ⟨b, o + r, none⟩ = some (.slice (A r) (L r) (C r))

theorem Tops.below {w w' : World} {x : Option Addr} {n B : Nat} {A : Nat → Option Addr} {L C : Nat → Nat} (h : Tops w x n A L C) (hB : w.heap.size ≤ B) (k : Below B w w') : Tops w' x n A L C := by
  rcases h with h | ⟨b, o, h1, h2, h3⟩
  · exact .inl h
  · exact .inr ⟨b, o, h1, Nat.lt_of_lt_of_le h2 k.size, fun r hr => (k.cell (Nat.lt_of_lt_of_le h2 hB)).trans (h3 r hr)⟩

def MayN (n : Nat) (L : Nat → Nat) : Prop := 1 ≤ n ∧ n ≤ 255 ∧ 1 ≤ L 0 ∧ L 0 ≤ 255 ∧ ∀ r, r < n → L r = L 0

theorem Mat.tops {w : World} {b o n m : Nat} {G O C : Nat → Nat} {f : Nat → Nat → Nat} (h : Mat w b o n m G O C f) : Tops w (some ⟨b, o, none⟩) n (fun r => some ⟨G r, O r, none⟩) (fun _ => m) C :=
  .inr ⟨b, o, rfl, h.hb, h.top⟩

theorem check_out (x : Option Addr) (n c : Nat) (w : World) (h : n = 0 ∨ 255 < n) :
    Calls Try.prog 52 #[.slice x n c] w fun e w' => e = .returned (.int .i64 1) ∧ w' = w := by
  go_enter Try.func52, Try.ntmps52
  go_wp2_with (go_at_call 41; refine (fits_no _ _ (by omega)).mono ?_; rintro e w' ⟨rfl, rfl⟩)
  go_ret
  exact ⟨rfl, rfl⟩

theorem check_wide (b o n c : Nat) (A : Nat → Option Addr) (L C : Nat → Nat) (w : World) (h1 : 1 ≤ n) (h2 : n ≤ 255) (h : L 0 = 0 ∨ 255 < L 0) (ht : ∀ r, r < n → w.cell? ⟨b, o + r, none⟩ = some (.slice (A r) (L r) (C r))) :
    Calls Try.prog 52 #[.slice (some ⟨b, o, none⟩) n c] w fun e w' => e = .returned (.int .i64 1) ∧ w' = w := by
  have h0 : w.cell? ⟨b, o, none⟩ = some (.slice (A 0) (L 0) (C 0)) := ht 0 (by omega)
  have hn : (0 : Int) < (n : Int) := by omega
  clear ht
  go_enter Try.func52, Try.ntmps52
  go_wp2_with (first | (go_at_call 41; refine (fits_yes _ _ (by omega) (by omega)).mono ?_; rintro e w' ⟨rfl, rfl⟩) | (go_at_call 41; refine (fits_no _ _ (by omega)).mono ?_; rintro e w' ⟨rfl, rfl⟩))
  go_ret
  exact ⟨rfl, rfl⟩

set_option maxHeartbeats 400000 in
set_option maxRecDepth 100000 in
theorem check_rows (b o n c : Nat) (z : Int) (A : Nat → Option Addr) (L C : Nat → Nat) (w : World) (h1 : 1 ≤ n) (h2 : n ≤ 255) (h3 : 1 ≤ L 0) (h4 : L 0 ≤ 255) (ht : ∀ r, r < n → w.cell? ⟨b, o + r, none⟩ = some (.slice (A r) (L r) (C r)))
    (hy : (∀ r, r < n → L r = L 0) → z = 0) (hx : ∀ r, r < n → L r ≠ L 0 → z = 1) :
    Calls Try.prog 52 #[.slice (some ⟨b, o, none⟩) n c] w fun e w' => e = .returned (.int .i64 z) ∧ w' = w := by
  have h0 : w.cell? ⟨b, o, none⟩ = some (.slice (A 0) (L 0) (C 0)) := ht 0 (by omega)
  have hn : (0 : Int) < (n : Int) := by omega
  go_enter Try.func52, Try.ntmps52
  go_wp2_with (first | (go_at_call 41; refine (fits_yes _ _ (by omega) (by omega)).mono ?_; rintro e w' ⟨rfl, rfl⟩))
  go_loopw [19] (fun i wr => ∃ k : Nat, k ≤ n ∧ i = .int .i64 k ∧ wr = w' ∧ Hid (∀ r, r < k → L r = L 0)) (fun i _ => n - (intOf i).toNat)
  case atStart => exact ⟨0, by omega, rfl, rfl, fun r hr => by omega⟩
  case round =>
    obtain ⟨k, hk, rfl, rfl, HA⟩ := hrel
    by_cases hlt : k < n
    · have htk := ht k hlt
      have hkn : (k : Int) < (n : Int) := by omega
      by_cases e : L k = L 0
      · have g : ((L k : Int) != (L 0 : Int)) = false := by rw [e]; simp
        have HA2 : Hid (∀ r, r < k + 1 → L r = L 0) := fun r hr => by
          by_cases e2 : r = k
          · subst e2; exact e
          · exact HA.out r (by omega)
        clear ht hy hx HA e
        go_wp2_with fail
        go_roundw
        case rel => exact ⟨k + 1, by omega, by go_num, trivial, HA2⟩
        case measure => simp [intOf]; omega
      · have g : ((L k : Int) != (L 0 : Int)) = true := by simp; omega
        have HZ : Hid (z = 1) := hx k hlt e
        clear ht hy hx HA e
        go_wp2_with fail
        go_ret
        exact ⟨by rw [HZ.out]; rfl, rfl⟩
    · have hk2 : k = n := by omega
      subst hk2
      have HZ : Hid (z = 0) := hy HA.out
      clear ht hy hx HA
      go_wp2_with fail
      go_ret
      exact ⟨by rw [HZ.out]; rfl, rfl⟩

theorem check_any (x : Option Addr) (n c : Nat) (z : Int) (A : Nat → Option Addr) (L C : Nat → Nat) (w : World) (h : Tops w x n A L C) (hy : MayN n L → z = 0) (hx : ¬ MayN n L → z = 1) :
    Calls Try.prog 52 #[.slice x n c] w fun e w' => e = .returned (.int .i64 z) ∧ w' = w := by
  by_cases h1 : n = 0 ∨ 255 < n
  · rw [hx (fun k => by unfold MayN at k; omega)]
    exact check_out x n c w h1
  · rcases h with h | ⟨b, o, rfl, _, ht⟩
    · omega
    · by_cases h2 : L 0 = 0 ∨ 255 < L 0
      · rw [hx (fun k => by unfold MayN at k; omega)]
        exact check_wide b o n c A L C w (by omega) (by omega) h2 ht
      · exact check_rows b o n c z A L C w (by omega) (by omega) (by omega) (by omega) ht (fun k => hy ⟨by omega, by omega, by omega, by omega, k⟩) (fun r hr e => hx (fun k => e (k.2.2.2.2 r hr)))

theorem check_yes (x : Option Addr) (n c : Nat) (A : Nat → Option Addr) (L C : Nat → Nat) (w : World) (h : Tops w x n A L C) (hy : MayN n L) :
    Calls Try.prog 52 #[.slice x n c] w fun e w' => e = .returned (.int .i64 0) ∧ w' = w := check_any x n c 0 A L C w h (fun _ => rfl) (fun k => absurd hy k)

theorem check_no (x : Option Addr) (n c : Nat) (A : Nat → Option Addr) (L C : Nat → Nat) (w : World) (h : Tops w x n A L C) (hx : ¬ MayN n L) :
    Calls Try.prog 52 #[.slice x n c] w fun e w' => e = .returned (.int .i64 1) ∧ w' = w := check_any x n c 1 A L C w h (fun k => absurd k hx) (fun _ => rfl)

def LightN (n : Nat) (L : Nat → Nat) : Prop := n ≤ 40 ∧ (n = 0 ∨ L 0 ≤ 40)

end Go.Proofs.Ytmlaloadeeohbaa
