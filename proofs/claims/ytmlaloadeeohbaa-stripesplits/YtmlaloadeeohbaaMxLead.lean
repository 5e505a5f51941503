/-
  What leader of package matrix does: contracts over plain numbers.
  Conditions: no more than 1000 rows and columns; the rows lie in memory.
-/
import Derived.Test.YtmlaloadeeohbaaMxMem
namespace Go.Proofs.Ytmlaloadeeohbaa
open Go.RowKit Gf
set_option linter.unusedVariables false

set_option maxHeartbeats 400000 in
set_option maxRecDepth 100000 in
theorem leader_some (b o n m d c i cp : Nat) (G O C : Nat → Nat) (f : Nat → Nat → Nat) (w : World) (h : Mat w b o n m G O C f) (hn : n ≤ 1000) (hm : m ≤ 1000) (hc : c < m) (hd : d ≤ i) (hi : i < n)
    (hz : ∀ j, d ≤ j → j < i → f j c = 0) (hnz : f i c ≠ 0) :
    Calls Try.prog 56 #[.slice (some ⟨b, o, none⟩) n cp, .int .i64 d, .int .i64 c] w fun e w' => e = .returned (.tuple #[.int .i64 i, .bool true]) ∧ w' = w := by
  have htop := h.top
  have hcell := h.cell
  go_enter Try.func56, Try.ntmps56
  go_wp2_with fail
  go_loopw [8] (fun s wr => ∃ k : Nat, d ≤ k ∧ k ≤ i ∧ s = .int .i64 k ∧ wr = w) (fun s _ => n - (intOf s).toNat)
  case atStart => exact ⟨d, Nat.le_refl _, hd, rfl, rfl⟩
  case round =>
    obtain ⟨k, hk1, hk2, rfl, rfl⟩ := hrel
    have h1 := htop k (by omega)
    have hkn : (k : Int) < (n : Int) := by omega
    have hcm : (c : Int) < (m : Int) := by omega
    by_cases hlt : k < i
    · have h2 : wr.cell? ⟨G k, O k + c, none⟩ = some (.int .u8 0) := by rw [hcell k (by omega) c hc, hz k hk1 hlt]; rfl
      clear htop hcell hz hnz
      go_wp2_with fail
      go_roundw
      case rel => exact ⟨k + 1, by omega, by omega, by go_num, trivial⟩
      case measure => simp [intOf]; omega
    · obtain rfl : k = i := by omega
      have h2 := hcell k (by omega) c hc
      have h3 : ((f k c : Int) != 0) = true := by simp; omega
      clear htop hcell hz hnz
      go_wp2_with fail
      go_ret2
      exact ⟨rfl, rfl⟩

set_option maxHeartbeats 400000 in
set_option maxRecDepth 100000 in
theorem leader_none (b o n m d c cp : Nat) (G O C : Nat → Nat) (f : Nat → Nat → Nat) (w : World) (h : Mat w b o n m G O C f) (hn : n ≤ 1000) (hm : m ≤ 1000) (hc : c < m) (hd : d ≤ n)
    (hz : ∀ j, d ≤ j → j < n → f j c = 0) :
    Calls Try.prog 56 #[.slice (some ⟨b, o, none⟩) n cp, .int .i64 d, .int .i64 c] w fun e w' => e = .returned (.tuple #[.int .i64 0, .bool false]) ∧ w' = w := by
  have htop := h.top
  have hcell := h.cell
  go_enter Try.func56, Try.ntmps56
  go_wp2_with fail
  go_loopw [8] (fun s wr => ∃ k : Nat, d ≤ k ∧ k ≤ n ∧ s = .int .i64 k ∧ wr = w) (fun s _ => n - (intOf s).toNat)
  case atStart => exact ⟨d, Nat.le_refl _, hd, rfl, rfl⟩
  case round =>
    obtain ⟨k, hk1, hk2, rfl, rfl⟩ := hrel
    by_cases hlt : k < n
    · have h1 := htop k (by omega)
      have hkn : (k : Int) < (n : Int) := by omega
      have hcm : (c : Int) < (m : Int) := by omega
      have h2 : wr.cell? ⟨G k, O k + c, none⟩ = some (.int .u8 0) := by rw [hcell k (by omega) c hc, hz k hk1 hlt]; rfl
      clear htop hcell hz
      go_wp2_with fail
      go_roundw
      case rel => exact ⟨k + 1, by omega, by omega, by go_num, trivial⟩
      case measure => simp [intOf]; omega
    · obtain rfl : k = n := by omega
      clear htop hcell hz
      go_wp2_with fail
      go_ret2
      exact ⟨rfl, rfl⟩

end Go.Proofs.Ytmlaloadeeohbaa
