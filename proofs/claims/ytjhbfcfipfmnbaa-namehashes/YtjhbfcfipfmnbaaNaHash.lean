/-
  A text's number, by the program and by the document.
  Conditions: the text is at most 2^47 bytes long.
-/
import Derived.Test.YtjhbfcfipfmnbaaNaCalls
import Derived.Laws.BitsAllLaws
namespace Go.Proofs.Ytjhbfcfipfmnbaa.Na
open Go.RowKit
set_option linter.unusedVariables false
set_option linter.unusedSimpArgs false

def hstep (x b : Nat) : Nat := (x ^^^ b) * 16777619 % 4294967296
def hfold (l : List Nat) : Nat := l.foldl hstep 2166136261
def mix1 (x : Nat) : Nat := (x ^^^ x / 65536) * 2146121005 % 4294967296
def mix2 (x : Nat) : Nat := (x ^^^ x / 32768) * 2221713035 % 4294967296
def mix3 (x : Nat) : Nat := x ^^^ x / 65536
def mixed (x : Nat) : Nat := mix3 (mix2 (mix1 x))

theorem xor_lt {a b : Nat} (ha : a < 4294967296) (hb : b < 4294967296) : a ^^^ b < 4294967296 := Nat.xor_lt_two_pow (n := 32) ha hb

theorem hfold_lt (l : List Nat) (x : Nat) (hx : x < 4294967296) : l.foldl hstep x < 4294967296 := by
  induction l generalizing x with
  | nil => exact hx
  | cons b l ih => exact ih _ (Nat.mod_lt _ (by omega))

/- As the walk meets them. -/
theorem xor_at (x b : Nat) (hx : x < 4294967296) (hb : b < 4294967296) : ∃ a : Nat, bits .xor .u32 (x : Int) (b : Int) = (a : Int) ∧ Hid (a = x ^^^ b) := ⟨_, u32_xor_nat x b hx hb, rfl⟩

theorem sh_at (x d : Nat) (z : Int) (hz : z = (d : Int)) (hx : x < 4294967296) : ∃ a : Nat, bits .xor .u32 (x : Int) ((x : Int) / z) = (a : Int) ∧ Hid (a = x ^^^ x / d) := by
  subst hz
  refine ⟨_, ?_, rfl⟩
  have h := u32_xor_nat x (x / d) hx (Nat.lt_of_le_of_lt (Nat.div_le_self _ _) hx)
  rw [← h]
  rfl

theorem mul_at (a c : Nat) (z : Int) (hz : z = (c : Int)) : ∃ y : Nat, (a : Int) * z % 4294967296 = (y : Int) ∧ y < 4294967296 ∧ Hid (y = a * c % 4294967296) := by
  subst hz
  exact ⟨a * c % 4294967296, by omega, Nat.mod_lt _ (by omega), rfl⟩

theorem mixed_any (x : Nat) (w : World) (hx : x < 4294967296) :
    Calls Try.prog 33 #[.int .u32 x] w fun e w' => e = .returned (.int .u32 (mixed x : Int)) ∧ w' = w := by
  obtain ⟨a, h1, H1⟩ := sh_at x 65536 65536 rfl hx
  obtain ⟨y, h2, hy, H2⟩ := mul_at a 2146121005 2146121005 rfl
  obtain ⟨b, h3, H3⟩ := sh_at y 32768 32768 rfl hy
  obtain ⟨z, h4, hz, H4⟩ := mul_at b 2221713035 2221713035 rfl
  obtain ⟨c, h5, H5⟩ := sh_at z 65536 65536 rfl hz
  have HC : Hid (mixed x = c) := by
    show mixed x = c
    rw [H5.out, H4.out, H3.out, H2.out, H1.out]
    rfl
  clear H1 H2 H3 H4 H5
  go_enter Try.func33, Try.ntmps33
  go_wp2_with fail
  go_ret
  rw [HC.out]
  exact ⟨rfl, rfl⟩

theorem fold_snoc (l : List Nat) (k : Nat) (hk : k < l.length) : (l.take (k + 1)).foldl hstep 2166136261 = hstep ((l.take k).foldl hstep 2166136261) (l.getD k 0) := by
  rw [take_snoc hk, List.foldl_append, List.foldl_cons, List.foldl_nil]

theorem getD_lt {l : List Nat} (h : ∀ x ∈ l, x < 256) (k : Nat) : l.getD k 0 < 256 := by
  by_cases hk : k < l.length
  · exact h _ (getD_mem hk)
  · simp [List.getD, List.getElem?_eq_none (Nat.le_of_not_lt hk)]

theorem hash_any (s : ByteArray) (w : World) (hs : s.size ≤ 140737488355328) :
    Calls Try.prog 18 #[.string s] w fun e w' => e = .returned (.int .u32 (mixed (hfold (nat s)) : Int)) ∧ w' = w := by
  go_enter Try.func18, Try.ntmps18
  go_wp2_with fail
  go_loop [3, 7] (fun x i => ∃ k X : Nat, k ≤ s.size ∧ X < 4294967296 ∧ x = .int .u32 X ∧ i = .int .i64 k ∧ Hid (X = ((nat s).take k).foldl hstep 2166136261)) (fun _ i => s.size - (intOf i).toNat)
  case atStart => exact ⟨0, 2166136261, by omega, by omega, rfl, rfl, rfl⟩
  case round =>
    obtain ⟨k, X, hk, hX, rfl, rfl, HX⟩ := hrel
    by_cases hlt : k < s.size
    · have hb := nat_get s k hlt
      have hbl := getD_lt (nat_lt s) k
      have HS := fold_snoc (nat s) k (by rw [nat_length]; exact hlt)
      rw [← HX.out] at HS
      generalize (nat s).getD k 0 = b at hb hbl HS
      obtain ⟨a, h1, H1⟩ := xor_at X b hX (by omega)
      obtain ⟨y, h2, hy, H2⟩ := mul_at a 16777619 16777619 rfl
      have HY : Hid (y = ((nat s).take (k + 1)).foldl hstep 2166136261) := by
        show y = _
        rw [HS, H2.out, H1.out]
        rfl
      clear HS H1 H2 HX
      go_wp2_with fail
      go_round
      case rel => exact ⟨k + 1, y, by omega, hy, by rw [h2], rfl, HY⟩
      case measure => simp [intOf]; omega
    · obtain rfl : k = s.size := by omega
      have HY : Hid (X = hfold (nat s)) := by
        show X = _
        rw [HX.out, List.take_of_length_le (by rw [nat_length]; exact Nat.le_refl _)]
        rfl
      have c := mixed_any X w hX
      clear HX
      go_wp2_with (go_at_call 33; refine c.mono ?_; clear c; rintro e w' ⟨rfl, rfl⟩)
      go_ret
      rw [← HY.out]
      exact ⟨rfl, rfl⟩

theorem rhash_any (s : ByteArray) (w : World) (hs : s.size ≤ 140737488355328) :
    Calls Try.prog 19 #[.string s] w fun e w' => e = .returned (.int .u32 (mixed (hfold (nat s)) : Int)) ∧ w' = w := by
  go_enter Try.func19, Try.ntmps19
  go_wp2_with fail
  go_loop [3, 4] (fun x i => ∃ k X : Nat, k ≤ s.size ∧ X < 4294967296 ∧ x = .int .u32 X ∧ i = .int .i64 k ∧ Hid (X = ((nat s).take k).foldl hstep 2166136261)) (fun _ i => s.size - (intOf i).toNat)
  case atStart => exact ⟨0, 2166136261, by omega, by omega, rfl, rfl, rfl⟩
  case round =>
    obtain ⟨k, X, hk, hX, rfl, rfl, HX⟩ := hrel
    by_cases hlt : k < s.size
    · have hb := nat_get s k hlt
      have hbl := getD_lt (nat_lt s) k
      have HS := fold_snoc (nat s) k (by rw [nat_length]; exact hlt)
      rw [← HX.out] at HS
      generalize (nat s).getD k 0 = b at hb hbl HS
      obtain ⟨a, h1, H1⟩ := xor_at X b hX (by omega)
      obtain ⟨y, h2, hy, H2⟩ := mul_at a 16777619 16777619 rfl
      have HY : Hid (y = ((nat s).take (k + 1)).foldl hstep 2166136261) := by
        show y = _
        rw [HS, H2.out, H1.out]
        rfl
      clear HS H1 H2 HX
      go_wp2_with fail
      go_round
      case rel => exact ⟨k + 1, y, by omega, hy, by rw [h2], rfl, HY⟩
      case measure => simp [intOf]; omega
    · obtain rfl : k = s.size := by omega
      have HY : Hid (X = hfold (nat s)) := by
        show X = _
        rw [HX.out, List.take_of_length_le (by rw [nat_length]; exact Nat.le_refl _)]
        rfl
      obtain ⟨a, h1, H1⟩ := sh_at X 65536 65536 rfl hX
      obtain ⟨y, h2, hy, H2⟩ := mul_at a 2146121005 2146121005 rfl
      obtain ⟨b, h3, H3⟩ := sh_at y 32768 32768 rfl hy
      obtain ⟨z, h4, hz, H4⟩ := mul_at b 2221713035 2221713035 rfl
      obtain ⟨c, h5, H5⟩ := sh_at z 65536 65536 rfl hz
      have HC : Hid (mixed (hfold (nat s)) = c) := by
        show mixed (hfold (nat s)) = c
        rw [H5.out, H4.out, H3.out, H2.out, H1.out, HY.out]
        rfl
      clear H1 H2 H3 H4 H5 HX HY
      go_wp2_with fail
      go_ret
      rw [HC.out]
      exact ⟨rfl, rfl⟩

end Go.Proofs.Ytjhbfcfipfmnbaa.Na
