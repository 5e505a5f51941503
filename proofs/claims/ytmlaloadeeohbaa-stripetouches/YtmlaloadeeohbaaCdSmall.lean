/-
  What the small functions of the code, of the document's and of the laws do: contracts over plain numbers.
  Conditions: rows that are looked at lie in memory.
-/
import Derived.Test.YtmlaloadeeohbaaCdMem
namespace Go.Proofs.Ytmlaloadeeohbaa
open Go.RowKit Gf
set_option linter.unusedVariables false

theorem rcode_yes (a b : Int) (w : World) (h : CauchyN a b) : Calls Try.prog 16 #[.int .i64 a, .int .i64 b] w fun e w' => e = .returned (.bool true) ∧ w' = w := by
  unfold CauchyN at h
  have h1 : 1 ≤ a := h.1
  have h2 : 1 ≤ b := h.2.1
  have h3 : a ≤ 254 := by omega
  have h4 : b ≤ 255 - a := by omega
  have h5 : 0 ≤ 255 - a := by omega
  have h6 : 255 - a ≤ 255 := by omega
  clear h
  go_enter Try.func16, Try.ntmps16
  go_wp2_with fail
  go_ret
  exact ⟨rfl, rfl⟩

theorem rcode_no (a b : Int) (w : World) (h : ¬ CauchyN a b) : Calls Try.prog 16 #[.int .i64 a, .int .i64 b] w fun e w' => e = .returned (.bool false) ∧ w' = w := by
  unfold CauchyN at h
  by_cases h1 : 1 ≤ a
  · by_cases h2 : 1 ≤ b
    · by_cases h3 : a ≤ 254
      · have h4 : ¬ (b ≤ 255 - a) := by omega
        have h5 : 0 ≤ 255 - a := by omega
        have h6 : 255 - a ≤ 255 := by omega
        clear h
        go_enter Try.func16, Try.ntmps16
        go_wp2_with fail
        go_ret
        exact ⟨rfl, rfl⟩
      · clear h
        go_enter Try.func16, Try.ntmps16
        go_wp2_with fail
        go_ret
        exact ⟨rfl, rfl⟩
    · clear h
      go_enter Try.func16, Try.ntmps16
      go_wp2_with fail
      go_ret
      exact ⟨rfl, rfl⟩
  · clear h
    go_enter Try.func16, Try.ntmps16
    go_wp2_with fail
    go_ret
    exact ⟨rfl, rfl⟩

/- Are lists equally long? -/
def EqN (n : Nat) (L : Nat → Nat) : Prop := ∀ r, r < n → L r = L 0

set_option maxHeartbeats 400000 in
set_option maxRecDepth 100000 in
theorem equally_rows (b o n c : Nat) (t : Bool) (A : Nat → Option Addr) (L C : Nat → Nat) (w : World) (hn : n ≤ 140737488351232) (ht : ∀ r, r < n → w.cell? ⟨b, o + r, none⟩ = some (.slice (A r) (L r) (C r)))
    (hy : EqN n L → t = true) (hx : ∀ r, r < n → L r ≠ L 0 → t = false) :
    Calls Try.prog 30 #[.slice (some ⟨b, o, none⟩) n c] w fun e w' => e = .returned (.bool t) ∧ w' = w := by
  go_enter Try.func30, Try.ntmps30
  go_wp2_with fail
  go_loopw [7] (fun i wr => ∃ k : Nat, k ≤ n ∧ i = .int .i64 k ∧ wr = w ∧ Hid (∀ r, r < k → L r = L 0)) (fun i _ => n - (intOf i).toNat)
  case atStart => exact ⟨0, by omega, rfl, rfl, fun r hr => by omega⟩
  case round =>
    obtain ⟨k, hk, rfl, rfl, HA⟩ := hrel
    by_cases hlt : k < n
    · have htk := ht k hlt
      have h0 : wr.cell? ⟨b, o, none⟩ = some (.slice (A 0) (L 0) (C 0)) := ht 0 (by omega)
      have hkn : (k : Int) < (n : Int) := by omega
      have hn0 : (0 : Int) < (n : Int) := by omega
      by_cases e : L k = L 0
      · have g : ((L k : Int) != (L 0 : Int)) = false := by rw [e]; simp
        have HA2 : Hid (∀ r, r < k + 1 → L r = L 0) := fun r hr => by
          by_cases e2 : r = k
          · subst e2; exact e
          · exact HA.out r (by omega)
        clear ht hy hx HA e
        go_wp2_with fail
        go_roundw
        case rel => exact ⟨k + 1, by omega, by go_num, trivial, HA2⟩
        case measure => simp [intOf]; omega
      · have g : ((L k : Int) != (L 0 : Int)) = true := by simp; omega
        have HZ : Hid (t = false) := hx k hlt e
        clear ht hy hx HA e
        go_wp2_with fail
        go_ret
        exact ⟨by rw [HZ.out]; rfl, rfl⟩
    · have hk2 : k = n := by omega
      subst hk2
      have HZ : Hid (t = true) := hy HA.out
      clear ht hy hx HA
      go_wp2_with fail
      go_ret
      exact ⟨by rw [HZ.out]; rfl, rfl⟩

theorem equally_zero (x : Option Addr) (c : Nat) (w : World) : Calls Try.prog 30 #[.slice x 0 c] w fun e w' => e = .returned (.bool true) ∧ w' = w := by
  go_enter Try.func30, Try.ntmps30
  go_wp2_with fail
  refine wp_loop_rounds 1 ?_
  rw [rounds_succ]
  go_wp2_with fail
  go_ret
  exact ⟨rfl, rfl⟩

theorem equally_any (x : Option Addr) (n c : Nat) (t : Bool) (A : Nat → Option Addr) (L C : Nat → Nat) (w : World) (hn : n ≤ 140737488351232) (h : Tops w x n A L C) (hy : EqN n L → t = true) (hx : ¬ EqN n L → t = false) :
    Calls Try.prog 30 #[.slice x n c] w fun e w' => e = .returned (.bool t) ∧ w' = w := by
  by_cases h0 : n = 0
  · subst h0
    rw [hy (fun r hr => by omega)]
    exact equally_zero x c w
  · rcases h with h | ⟨b, o, rfl, _, ht⟩
    · exact absurd h h0
    · exact equally_rows b o n c t A L C w hn ht hy (fun r hr e => hx (fun k => e (k r hr)))

theorem equally_yes (x : Option Addr) (n c : Nat) (A : Nat → Option Addr) (L C : Nat → Nat) (w : World) (hn : n ≤ 140737488351232) (h : Tops w x n A L C) (hy : EqN n L) :
    Calls Try.prog 30 #[.slice x n c] w fun e w' => e = .returned (.bool true) ∧ w' = w := equally_any x n c true A L C w hn h (fun _ => rfl) (fun k => absurd hy k)

theorem equally_no (x : Option Addr) (n c : Nat) (A : Nat → Option Addr) (L C : Nat → Nat) (w : World) (hn : n ≤ 140737488351232) (h : Tops w x n A L C) (hx : ¬ EqN n L) :
    Calls Try.prog 30 #[.slice x n c] w fun e w' => e = .returned (.bool false) ∧ w' = w := equally_any x n c false A L C w hn h (fun k => absurd k hx) (fun _ => rfl)

/- The document's. -/
theorem even_len (x : Option Addr) (n c : Nat) (z : Int) (w : World) (h : (n : Int) ≠ z) : Calls Try.prog 38 #[.slice x n c, .int .i64 z] w fun e w' => e = .returned (.bool false) ∧ ∃ m, w' = w.drewN m := by
  have g : ((n : Int) != z) = true := by simp [h]
  clear h
  go_enter Try.func38, Try.ntmps38
  go_wp2_with fail
  go_ret
  exact ⟨rfl, 0, rfl⟩

theorem even_zero (x : Option Addr) (c : Nat) (w : World) : Calls Try.prog 38 #[.slice x 0 c, .int .i64 0] w fun e w' => e = .returned (.bool true) ∧ ∃ m, w' = w.drewN m := by
  go_enter Try.func38, Try.ntmps38
  go_wp2_with fail
  refine wp_loop_rounds 1 ?_
  rw [rounds_succ]
  go_wp2_with fail
  go_ret
  exact ⟨rfl, 0, rfl⟩

set_option maxHeartbeats 400000 in
set_option maxRecDepth 100000 in
theorem even_rows (b o n c : Nat) (t : Bool) (A : Nat → Option Addr) (L C : Nat → Nat) (w : World) (hn : n ≤ 140737488351232) (ht : ∀ r, r < n → w.cell? ⟨b, o + r, none⟩ = some (.slice (A r) (L r) (C r)))
    (hy : EqN n L → t = true) (hx : ∀ r, r < n → L r ≠ L 0 → t = false) :
    Calls Try.prog 38 #[.slice (some ⟨b, o, none⟩) n c, .int .i64 n] w fun e w' => e = .returned (.bool t) ∧ ∃ m, w' = w.drewN m := by
  have g0 : ((n : Int) != (n : Int)) = false := by simp
  go_enter Try.func38, Try.ntmps38
  go_wp2_with fail
  go_loopw [5] (fun i wr => ∃ k : Nat, k ≤ n ∧ i = .int .i64 k ∧ Hid (∃ m, wr = w.drewN m) ∧ Hid (∀ r, r < k → L r = L 0)) (fun i _ => n - (intOf i).toNat)
  case atStart => exact ⟨0, by omega, rfl, ⟨0, rfl⟩, fun r hr => by omega⟩
  case round =>
    obtain ⟨k, hk, rfl, HW, HA⟩ := hrel
    by_cases hlt : k < n
    · have htk : wr.cell? ⟨b, o + k, none⟩ = some (.slice (A k) (L k) (C k)) := by obtain ⟨m, hm⟩ := HW.out; rw [hm]; exact ht k hlt
      have h0 : wr.cell? ⟨b, o, none⟩ = some (.slice (A 0) (L 0) (C 0)) := by obtain ⟨m, hm⟩ := HW.out; rw [hm]; exact ht 0 (by omega)
      have hkn : (k : Int) < (n : Int) := by omega
      have hn0 : (0 : Int) < (n : Int) := by omega
      by_cases e : L k = L 0
      · have g : ((L k : Int) != (L 0 : Int)) = false := by rw [e]; simp
        have HA2 : Hid (∀ r, r < k + 1 → L r = L 0) := fun r hr => by
          by_cases e2 : r = k
          · subst e2; exact e
          · exact HA.out r (by omega)
        clear ht hy hx HA e
        go_wp2_with fail
        go_region
        go_wp2_with fail
        go_roundw
        case rel => exact ⟨k + 1, by omega, by go_num, drewN_more (n := 1) HW.out, HA2⟩
        case measure => simp [intOf]; omega
      · have g : ((L k : Int) != (L 0 : Int)) = true := by simp; omega
        have HZ : Hid (t = false) := hx k hlt e
        clear ht hy hx HA e
        go_wp2_with fail
        go_region
        go_wp2_with fail
        go_ret
        exact ⟨by rw [HZ.out]; rfl, drewN_more (n := 1) HW.out⟩
    · have hk2 : k = n := by omega
      subst hk2
      have HZ : Hid (t = true) := hy HA.out
      clear ht hy hx HA
      go_wp2_with fail
      go_ret
      exact ⟨by rw [HZ.out]; rfl, HW.out⟩

theorem even_any (x : Option Addr) (n c : Nat) (z : Int) (t : Bool) (A : Nat → Option Addr) (L C : Nat → Nat) (w : World) (hn : n ≤ 140737488351232) (h : Tops w x n A L C) (hy : (n : Int) = z → EqN n L → t = true) (hx : ¬ ((n : Int) = z ∧ EqN n L) → t = false) :
    Calls Try.prog 38 #[.slice x n c, .int .i64 z] w fun e w' => e = .returned (.bool t) ∧ ∃ m, w' = w.drewN m := by
  by_cases hz : (n : Int) = z
  · subst hz
    by_cases h0 : n = 0
    · subst h0
      rw [hy rfl (fun r hr => by omega)]
      exact even_zero x c w
    · rcases h with h | ⟨b, o, rfl, _, ht⟩
      · exact absurd h h0
      · exact even_rows b o n c t A L C w hn ht (hy rfl) (fun r hr e => hx (fun k => e (k.2 r hr)))
  · rw [hx (fun k => hz k.1)]
    exact even_len x n c z w hz

theorem whole_any (x : Option Addr) (k m n c : Nat) (t : Bool) (A : Nat → Option Addr) (L C : Nat → Nat) (w : World) (hn : n ≤ 140737488351232) (hk : k ≤ 1000) (hm : m ≤ 1000) (h : Tops w x n A L C) (hy : n = k + m → EqN n L → t = true) (hx : ¬ (n = k + m ∧ EqN n L) → t = false) :
    Calls Try.prog 34 #[.int .i64 k, .int .i64 m, .slice x n c] w fun e w' => e = .returned (.bool t) ∧ w' = w := by
  obtain ⟨s, hs⟩ : ∃ s, s = k + m := ⟨_, rfl⟩
  have hsi : (k : Int) + (m : Int) = (s : Int) := by omega
  rw [← hs] at hy hx
  by_cases e : n = s
  · subst e
    have hq := equally_any x n c t A L C w hn h (hy rfl) (fun k => hx (fun q => k q.2))
    have hs5 : n ≤ 2000 := by omega
    clear hy hx h hs
    go_enter Try.func34, Try.ntmps34
    go_wp2_with (go_at_call 30; refine hq.mono ?_; rintro e w' ⟨rfl, rfl⟩)
    go_ret
    exact ⟨rfl, rfl⟩
  · have g : ((n : Int) == (s : Int)) = false := by simp; omega
    have HT : Hid (t = false) := hx (fun q => e q.1)
    have hs5 : s ≤ 2000 := by omega
    clear hy hx h hs e
    go_enter Try.func34, Try.ntmps34
    go_wp2_with fail
    go_ret
    exact ⟨by rw [HT.out]; rfl, rfl⟩

/- How many one has. -/
def BoolsAt (w : World) (x : Option Addr) (p : Nat) (h : Nat → Bool) : Prop :=
  p = 0 ∨ ∃ b o, x = some ⟨b, o, none⟩ ∧ b < w.heap.size ∧ ∀ i, i < p → w.cell? ⟨b, o + i, none⟩ = some (.bool (h i))

theorem BoolsAt.below {w w' : World} {x : Option Addr} {p B : Nat} {h : Nat → Bool} (q : BoolsAt w x p h) (hB : w.heap.size ≤ B) (k : Below B w w') : BoolsAt w' x p h := by
  rcases q with q | ⟨b, o, h1, h2, h3⟩
  · exact .inl q
  · exact .inr ⟨b, o, h1, Nat.lt_of_lt_of_le h2 k.size, fun r hr => (k.cell (Nat.lt_of_lt_of_le h2 hB)).trans (h3 r hr)⟩

end Go.Proofs.Ytmlaloadeeohbaa
