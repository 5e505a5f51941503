/-
  What More and Of of package sum, and the document's Of, do: contracts over plain numbers ('SuPlain').
  Conditions: bytes that are looked at lie in memory.
-/
import Derived.Test.YthfpljfndnjcnaaSuCalls
import Derived.Test.YthfpljfndnjcnaaByBase
namespace Go.Proofs.Ythfpljfndnjcnaa
open Go.RowKit Su By
set_option linter.unusedVariables false

theorem run_index_cell {P : Program} (t e : TypeId) (n : Nat) (cs : Array Value) (k : IntKind) (i : Nat) (v : Value) (w : World)
    (h : P.underlying t = some (.array n e)) (hs : (sizeOf e).run P w = .ok 1 w) (ha : (isAgg e).run P w = .ok false w) (hi : i < n) (hv : cs[i]? = some v) :
    (Instr.index t (.agg cs) (.int k i)).run P w = .ok v w := by
  simp [Instr.index, run_underlying h, asIntOf, hs, ha, part, hv, hi]

def tabCells : Array Value := (tabL.map fun (n : Nat) => Value.int .u32 (n : Int)).toArray

theorem tab_cell (n : Nat) (h : n < 256) : tabCells[n]? = some (.int .u32 (tab n : Int)) := by
  have hl : tabL.length = 256 := by decide +kernel
  unfold tabCells tab
  simp [List.getElem?_eq_getElem (show n < tabL.length by omega)]

theorem size_word (w : World) : (sizeOf 77).run Try.prog w = .ok 1 w := by kernel_rfl
theorem agg_word (w : World) : (isAgg 77).run Try.prog w = .ok false w := by kernel_rfl

/- step(b). -/
theorem step_any (n : Nat) (w : World) (h : n < 256) :
    Calls Try.prog 56 #[.int .u8 n] w fun e w' => e = .returned (.int .u32 (tab n : Int)) ∧ w' = w := by
  have hi : ∀ w : World, (Instr.index 100 (.agg tabCells) (.int .u8 n)).run Try.prog w = .ok (.int .u32 (tab n : Int)) w :=
    fun w => run_index_cell _ _ _ _ _ _ _ w Try.underlying100 (size_word w) (agg_word w) h (tab_cell n h)
  go_enter Try.func56, Try.ntmps56
  go_wp2_with (refine wpList_buildAs rfl _ _ rfl tabCells (by kernel_rfl) ?_)
  go_ret
  exact ⟨rfl, rfl⟩

theorem not_word (s : Nat) (hs : s < 4294967296) : bits .xor .u32 IntKind.u32.max (s : Int) = ((s ^^^ ones : Nat) : Int) := by
  rw [Nat.xor_comm]
  exact u32_xor_nat ones s (by decide) hs

/- More(s, b), b not empty. -/
set_option maxHeartbeats 400000 in
set_option maxRecDepth 100000 in
theorem more_pos (s b o n c : Nat) (f : Nat → Nat) (w : World) (hs : s < 4294967296) (hf : ∀ i, f i < 256) (hn : n ≤ 281474976710656)
    (hx : ∀ i, i < n → w.cell? ⟨b, o + i, none⟩ = some (.int .u8 (f i : Int))) :
    Calls Try.prog 55 #[.int .u32 s, .slice (some ⟨b, o, none⟩) n c] w fun e w' => e = .returned (.int .u32 (more s f n : Int)) ∧ w' = w := by
  have h1 := not_word s hs
  have hl := xor32 hs (show ones < 4294967296 by decide)
  have HM : Hid (crc f (s ^^^ ones) n ^^^ ones = more s f n) := rfl
  generalize s ^^^ ones = s0 at h1 hl HM
  go_enter Try.func55, Try.ntmps55
  go_wp2_with fail
  go_loop [5, 12] (fun r i => ∃ k R : Nat, k ≤ n ∧ R < 4294967296 ∧ r = .int .u32 R ∧ i = .int .i64 k ∧ Hid (R = crc f s0 k)) (fun _ i => n - (intOf i).toNat)
  case atStart => exact ⟨0, s0, by omega, hl, rfl, rfl, rfl⟩
  case round =>
    obtain ⟨k, R, hk, hR, rfl, rfl, HR⟩ := hrel
    by_cases hlt : k < n
    · have hx1 := hx k hlt
      have hfk := hf k
      have hx8 : bits .xor .u8 ((R : Int) % 256) (f k : Int) = (((R % 256) ^^^ f k : Nat) : Int) := u8_xor_nat (R % 256) (f k) (by omega) hfk
      have hl8 : (R % 256) ^^^ f k < 256 := xor8 (by omega) hfk
      have hx32 : bits .xor .u32 (tab ((R % 256) ^^^ f k) : Int) ((R : Int) / 256) = ((byteStep R (f k) : Nat) : Int) := by
        rw [← tab_step R (f k) hfk]
        exact u32_xor_nat (tab ((R % 256) ^^^ f k)) (R / 256) (tab_lt _ hl8) (by omega)
      have hl32 := byteStep_lt R (f k) hR hfk
      have HS : Hid (byteStep R (f k) = crc f s0 (k + 1)) := by rw [HR.out]; exact rfl
      have hc := step_any ((R % 256) ^^^ f k) w hl8
      clear HR hx hf
      generalize (R % 256) ^^^ f k = Q at hx8 hl8 hx32 hc
      generalize byteStep R (f k) = Z at hx32 hl32 HS
      generalize tab Q = U at hx32 hc
      go_wp2_with (go_at_call 56; refine hc.mono ?_; rintro e w' ⟨rfl, rfl⟩; clear hc)
      go_round
      case rel => exact ⟨k + 1, Z, by omega, hl32, rfl, by go_num, HS⟩
      case measure => simp [intOf]; omega
    · have hk2 : k = n := by omega
      subst hk2
      have h2 := not_word R hR
      have HZ : Hid (R ^^^ ones = more s f k) := by rw [← HM.out, HR.out]; exact rfl
      clear hx hf
      go_wp2_with fail
      go_ret
      exact ⟨by rw [← HZ.out]; rfl, rfl⟩

theorem more_zero' (s c : Nat) (x : Option Addr) (w : World) (hs : s < 4294967296) :
    Calls Try.prog 55 #[.int .u32 s, .slice x 0 c] w fun e w' => e = .returned (.int .u32 (s : Int)) ∧ w' = w := by
  have h1 := not_word s hs
  have hl := xor32 hs (show ones < 4294967296 by decide)
  have h2 := not_word _ hl
  rw [show s ^^^ ones ^^^ ones = s by rw [Nat.xor_assoc, Nat.xor_self, Nat.xor_zero]] at h2
  generalize s ^^^ ones = s0 at h1 hl h2
  go_enter Try.func55, Try.ntmps55
  go_wp2_with fail
  refine wp_loop_rounds 1 ?_
  rw [rounds_succ]
  go_wp2_with fail
  go_ret
  exact ⟨rfl, rfl⟩

theorem more_any (s n c : Nat) (x : Option Addr) (f : Nat → Nat) (w : World) (hs : s < 4294967296) (hf : ∀ i, f i < 256) (hn : n ≤ 281474976710656) (hx : RowAt w x n f) :
    Calls Try.prog 55 #[.int .u32 s, .slice x n c] w fun e w' => e = .returned (.int .u32 (more s f n : Int)) ∧ w' = w := by
  by_cases h0 : n = 0
  · subst h0
    have e : more s f 0 = s := by show s ^^^ ones ^^^ ones = s; rw [Nat.xor_assoc, Nat.xor_self, Nat.xor_zero]
    rw [e]
    exact more_zero' s c x w hs
  · rcases hx with h | ⟨b, o, rfl, _, hx⟩
    · exact absurd h h0
    · exact more_pos s b o n c f w hs hf hn hx

theorem of_any (n c : Nat) (x : Option Addr) (f : Nat → Nat) (w : World) (hf : ∀ i, f i < 256) (hn : n ≤ 281474976710656) (hx : RowAt w x n f) :
    Calls Try.prog 53 #[.slice x n c] w fun e w' => e = .returned (.int .u32 (sumOf f n : Int)) ∧ w' = w := by
  have hm := more_any 0 n c x f w (by omega) hf hn hx
  rw [more_zero] at hm
  generalize sumOf f n = Z at hm
  clear hx hf
  go_enter Try.func53, Try.ntmps53
  go_wp2_with (go_at_call 55; refine hm.mono ?_; rintro e w' ⟨rfl, rfl⟩; clear hm)
  go_ret
  exact ⟨rfl, rfl⟩

end Go.Proofs.Ythfpljfndnjcnaa
