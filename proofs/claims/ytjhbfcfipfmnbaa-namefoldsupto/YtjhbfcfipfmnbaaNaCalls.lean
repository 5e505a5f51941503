/-
  Beginnings and ends of texts; whether a rune stands for a byte that is part of none.
  Conditions: none.
-/
import Derived.Test.YtjhbfcfipfmnbaaNaStr
import Derived.WalkSpells
import Derived.WalkLawsBesides
import Derived.Laws.Strings3
import Derived.Laws.Runes
import Derived.Laws.RangeAny
import Derived.Below
namespace Go.Proofs.Ytjhbfcfipfmnbaa.Na
open Go.RowKit
set_option linter.unusedVariables false
set_option linter.unusedSimpArgs false

theorem prefixlite_any (s p : ByteArray) (t : Bool) (w : World) (h : (nat s).take p.size = nat p ↔ t = true) :
    Calls Try.prog 40 #[.string s, .string p] w fun e w' => e = .returned (.bool t) ∧ w' = w := by
  have he : p.size ≤ s.size → ((s.extract 0 p.size).toList == p.toList) = t := fun _ => beq_nat _ _ _ (by rw [nat_extract]; exact h)
  have hn : ¬ p.size ≤ s.size → t = false := fun hc => by
    cases t with
    | false => rfl
    | true =>
      have := congrArg List.length (h.2 rfl)
      rw [List.length_take, nat_length, nat_length] at this
      omega
  clear h
  go_enter Try.func40, Try.ntmps40
  go_wp2_with fail
  · rename_i h
    go_ret
    exact ⟨by rw [← he h]; rfl, rfl⟩
  · rename_i h
    go_ret
    exact ⟨by rw [hn h]; rfl, rfl⟩

theorem prefix_any (s p : ByteArray) (t : Bool) (w : World) (h : (nat s).take p.size = nat p ↔ t = true) :
    Calls Try.prog 34 #[.string s, .string p] w fun e w' => e = .returned (.bool t) ∧ w' = w := by
  have c := prefixlite_any s p t w h
  clear h
  go_enter Try.func34, Try.ntmps34
  go_wp2_with (go_at_call 40; refine c.mono ?_; clear c; rintro e w' ⟨rfl, rfl⟩)
  go_ret
  exact ⟨rfl, rfl⟩

theorem suffixlite_any (s p : ByteArray) (t : Bool) (w : World) (hs : s.size ≤ 9223372036854775807) (hp : p.size ≤ s.size → ((nat s).drop (s.size - p.size) = nat p ↔ t = true)) (hn : ¬ p.size ≤ s.size → t = false) :
    Calls Try.prog 41 #[.string s, .string p] w fun e w' => e = .returned (.bool t) ∧ w' = w := by
  have he : p.size ≤ s.size → ((s.extract (s.size - p.size) s.size).toList == p.toList) = t := fun hc => beq_nat _ _ _ (by rw [nat_extract, List.take_of_length_le (by rw [nat_length]; exact Nat.le_refl _)]; exact hp hc)
  have hlo : p.size ≤ s.size → ((s.size : Int) - (p.size : Int) + 9223372036854775808) % 18446744073709551616 - 9223372036854775808 = ((s.size - p.size : Nat) : Int) := fun _ => by omega
  clear hp
  go_enter Try.func41, Try.ntmps41
  go_wp2_with fail
  · have h : p.size ≤ s.size := by assumption
    go_ret
    exact ⟨by rw [← he h]; rfl, rfl⟩
  · have h : ¬ p.size ≤ s.size := by assumption
    go_ret
    exact ⟨by rw [hn h]; rfl, rfl⟩

theorem suffix_any (s p : ByteArray) (t : Bool) (w : World) (hs : s.size ≤ 9223372036854775807) (hp : p.size ≤ s.size → ((nat s).drop (s.size - p.size) = nat p ↔ t = true)) (hn : ¬ p.size ≤ s.size → t = false) :
    Calls Try.prog 36 #[.string s, .string p] w fun e w' => e = .returned (.bool t) ∧ w' = w := by
  have c := suffixlite_any s p t w hs hp hn
  clear hp hn
  go_enter Try.func36, Try.ntmps36
  go_wp2_with (go_at_call 41; refine c.mono ?_; clear c; rintro e w' ⟨rfl, rfl⟩)
  go_ret
  exact ⟨rfl, rfl⟩

theorem nat_repl : nat { data := #[239, 191, 189] } = [239, 191, 189] := by decide

theorem unread_no (s : ByteArray) (r : Nat) (w : World) (h : r ≠ 65533) :
    Calls Try.prog 22 #[.string s, .int .i32 r] w fun e w' => e = .returned (.bool false) ∧ w' = w := by
  have hb : ((r : Int) == 65533) = false := by simp; omega
  clear h
  go_enter Try.func22, Try.ntmps22
  go_wp2_with fail
  go_ret
  exact ⟨rfl, rfl⟩

theorem unread_at (s : ByteArray) (t : Bool) (w : World) (h : (nat s).take 3 = [239, 191, 189] ↔ t = true) :
    Calls Try.prog 22 #[.string s, .int .i32 65533] w fun e w' => e = .returned (.bool !t) ∧ w' = w := by
  have c := prefix_any s { data := #[239, 191, 189] } t w (by rw [nat_repl]; exact h)
  clear h
  go_enter Try.func22, Try.ntmps22
  go_wp2_with (go_at_call 34; refine c.mono ?_; clear c; rintro e w' ⟨rfl, rfl⟩)
  go_ret
  exact ⟨rfl, rfl⟩

end Go.Proofs.Ytjhbfcfipfmnbaa.Na
