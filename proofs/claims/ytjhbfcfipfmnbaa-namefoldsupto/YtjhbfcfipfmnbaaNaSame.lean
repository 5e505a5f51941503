/-
  Same: whether texts are alike but for capitals.
  Conditions: the texts are at most 2^45 bytes long.
-/
import Derived.Test.YtjhbfcfipfmnbaaNaFold
namespace Go.Proofs.Ytjhbfcfipfmnbaa.Na
open Go.RowKit
set_option linter.unusedVariables false
set_option linter.unusedSimpArgs false

theorem same_first (a b : ByteArray) (rs t : List Nat) (w : World) (h : Txt (nat a) rs t) (ha : a.size ≤ 35184372088832) (ht : t ≠ []) :
    Calls Try.prog 17 #[.string a, .string b] w fun e w' => e = .returned (.bool false) ∧ Below w.heap.size w w' := by
  have c1 := fold_no a rs t w h ha ht
  clear h ht
  go_enter Try.func17, Try.ntmps17
  go_wp2_with (go_at_call 15; refine c1.mono ?_; clear c1; rintro e w' ⟨rfl, hb1⟩)
  go_ret
  exact ⟨rfl, hb1⟩

theorem same_second (a b : ByteArray) (rs rs2 t : List Nat) (w : World) (h : Txt (nat a) rs []) (h2 : Txt (nat b) rs2 t) (ha : a.size ≤ 35184372088832) (hb : b.size ≤ 35184372088832) (ht : t ≠ []) :
    Calls Try.prog 17 #[.string a, .string b] w fun e w' => e = .returned (.bool false) ∧ Below w.heap.size w w' := by
  have c1 := fold_yes a rs w h ha
  have c2 : ∀ v, Calls Try.prog 15 #[.string b] v fun e w' => e = .returned (.tuple #[.string ⟨#[]⟩, .int .i64 5]) ∧ Below v.heap.size v w' := fun v => fold_no b rs2 t v h2 hb ht
  generalize str (flat (rs.map foldN)) = X at c1
  clear h h2 ht
  go_enter Try.func17, Try.ntmps17
  go_wp2_with (first
    | (go_at_call 15; refine c1.mono ?_; clear c1; rintro e w1 ⟨rfl, hb1⟩)
    | (go_at_call 15; refine (c2 _).mono ?_; clear c2; rintro e w2 ⟨rfl, hb2⟩))
  go_ret
  exact ⟨rfl, hb1.trans (hb2.mono hb1.size)⟩

theorem same_yes (a b X Y : ByteArray) (rs rs2 : List Nat) (q : Bool) (w : World) (h : Txt (nat a) rs []) (h2 : Txt (nat b) rs2 []) (ha : a.size ≤ 35184372088832) (hb : b.size ≤ 35184372088832)
    (hX : str (flat (rs.map foldN)) = X) (hY : str (flat (rs2.map foldN)) = Y) (hq : (X.toList == Y.toList) = q) :
    Calls Try.prog 17 #[.string a, .string b] w fun e w' => e = .returned (.bool q) ∧ Below w.heap.size w w' := by
  have c1 := fold_yes a rs w h ha
  have c2 : ∀ v, Calls Try.prog 15 #[.string b] v fun e w' => e = .returned (.tuple #[.string (str (flat (rs2.map foldN))), .int .i64 0]) ∧ Below v.heap.size v w' := fun v => fold_yes b rs2 v h2 hb
  rw [hX] at c1
  rw [hY] at c2
  clear h h2 hX hY
  go_enter Try.func17, Try.ntmps17
  go_wp2_with (first
    | (go_at_call 15; refine c1.mono ?_; clear c1; rintro e w1 ⟨rfl, hb1⟩)
    | (go_at_call 15; refine (c2 _).mono ?_; clear c2; rintro e w2 ⟨rfl, hb2⟩))
  go_ret
  exact ⟨rfl, hb1.trans (hb2.mono hb1.size)⟩

end Go.Proofs.Ytjhbfcfipfmnbaa.Na
