/-
  The statements' own test that a product is reduced answers true.
-/
import Derived.Test.YtfjegmmojdkdeaaGfRefs
namespace Go.Proofs.Ytfjegmmojdkdeaa
open Go.RowKit Gf

theorem mul_2_128 : tmul 2 128 = 29 := by decide +kernel
theorem inv_2 : tinv 2 = 142 := by decide +kernel

theorem awake_any (w : World) : Calls Try.prog 14 #[] w fun e w' => e = .returned (.bool true) ∧ w' = w := by
  have h1 : ∀ w : World, Calls Try.prog 7 #[.int .u8 2] w fun e w' => e = .returned (.tuple #[.int .u8 142, .bool true]) ∧ w' = w := by
    intro w
    have := inv_any 2 w (by omega)
    rwa [inv_2] at this
  have h2 : ∀ w : World, Calls Try.prog 12 #[.int .u8 2, .int .u8 128] w fun e w' => e = .returned (.int .u8 29) ∧ w' = w := by
    intro w
    have := mul_any 2 128 w (by omega) (by omega)
    rwa [mul_2_128] at this
  have h3 : ∀ w : World, Calls Try.prog 11 #[.int .u8 3, .int .u8 5] w fun e w' => e = .returned (.int .u8 6) ∧ w' = w := by
    intro w
    exact add_any 3 5 w (by omega) (by omega)
  go_enter Try.func14, Try.ntmps14
  go_wp2_with (first | (go_at_call 7; refine (h1 _).mono ?_; rintro e w' ⟨rfl, rfl⟩) | (go_at_call 12; refine (h2 _).mono ?_; rintro e w' ⟨rfl, rfl⟩) | (go_at_call 11; refine (h3 _).mono ?_; rintro e w' ⟨rfl, rfl⟩))
  go_ret
  exact ⟨rfl, rfl⟩

end Go.Proofs.Ytfjegmmojdkdeaa
