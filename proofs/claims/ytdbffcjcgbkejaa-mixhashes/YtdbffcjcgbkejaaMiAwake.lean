/-
  The statements' own test of powers' logarithms answers true.
  Conditions: none.
-/
import Derived.Test.YtdbffcjcgbkejaaMiLog
namespace Go.Proofs.Ytdbffcjcgbkejaa.Mi
open Go.RowKit
set_option linter.unusedVariables false

theorem awake_any (w : World) : Calls Try.prog 13 #[] w fun e w' => e = .returned (.bool true) ∧ w' = w := by
  have c1 : ∀ w : World, Calls Try.prog 14 #[.int .i64 1] w fun e w' => e = .returned (.tuple #[.int .i64 0, .bool true]) ∧ w' = w := by
    intro w
    have := log_yes 1 w (by omega) (by omega)
    rwa [lg_one] at this
  have c2 : ∀ w : World, Calls Try.prog 14 #[.int .i64 65536] w fun e w' => e = .returned (.tuple #[.int .i64 268435456, .bool true]) ∧ w' = w := by
    intro w
    have := log_yes 65536 w (by omega) (by omega)
    rwa [lg_top] at this
  have m : ∀ w : World, Calls Try.prog 7 #[.int .u32 1] w fun e w' => e = .returned (.int .u32 1753845952) ∧ w' = w := by
    intro w
    have := mix_any 1 w (by omega)
    rwa [mx_one] at this
  go_enter Try.func13, Try.ntmps13
  go_wp2_with (first | (go_at_call 14; with_reducible refine (c1 _).mono ?_; rintro e w' ⟨rfl, rfl⟩) | (go_at_call 14; with_reducible refine (c2 _).mono ?_; rintro e w' ⟨rfl, rfl⟩) | (go_at_call 7; refine (m _).mono ?_; rintro e w' ⟨rfl, rfl⟩))
  go_ret
  exact ⟨rfl, rfl⟩

end Go.Proofs.Ytdbffcjcgbkejaa.Mi
