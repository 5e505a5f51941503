/-
  What the methods of a reader that is none do.
  Conditions: none.
-/
import Derived.Test.YtjodeceaogngfaaWiPut
namespace Go.Proofs.Ytjodeceaogngfaa
open Go.RowKit Wi By
set_option linter.unusedVariables false
set_option linter.unusedSimpArgs false
set_option maxRecDepth 100000

theorem nerr (w : World) : Calls Try.prog 20 #[.pointer none] w fun ed w' => ed = .returned (.int .i64 5) ∧ w' = w := by
  go_enter Try.func20, Try.ntmps20
  go_wp2_with fail
  go_ret
  exact ⟨rfl, rfl⟩

theorem nleft (w : World) : Calls Try.prog 19 #[.pointer none] w fun ed w' => ed = .returned (.int .i64 0) ∧ w' = w := by
  go_enter Try.func19, Try.ntmps19
  go_wp2_with fail
  go_ret
  exact ⟨rfl, rfl⟩

theorem ndone (w : World) : Calls Try.prog 18 #[.pointer none] w fun ed w' => ed = .returned (.int .i64 5) ∧ w' = w := by
  have h1 := nerr w
  go_enter Try.func18, Try.ntmps18
  go_wp2_with (go_at_call 20; refine h1.mono ?_; rintro e w' ⟨rfl, rfl⟩; clear h1)
  go_ret
  exact ⟨rfl, rfl⟩

theorem nuv (w : World) : Calls Try.prog 13 #[.pointer none] w fun ed w' => ed = .returned (.int .u64 0) ∧ w' = w := by
  have h1 := nerr w
  go_enter Try.func13, Try.ntmps13
  go_wp2_with (go_at_call 20; refine h1.mono ?_; rintro e w' ⟨rfl, rfl⟩; clear h1)
  go_ret
  exact ⟨rfl, rfl⟩

theorem nvar (w : World) : Calls Try.prog 14 #[.pointer none] w fun ed w' => ed = .returned (.int .i64 0) ∧ w' = w := by
  have h1 := nuv w
  have h2 := unfolded_any 0 w (by omega)
  rw [show unzz 0 = 0 from rfl] at h2
  go_enter Try.func14, Try.ntmps14
  go_wp2_with (first
    | (go_at_call 13; refine h1.mono ?_; rintro e w' ⟨rfl, rfl⟩; clear h1)
    | (go_at_call 40; refine h2.mono ?_; rintro e w' ⟨rfl, rfl⟩; clear h2))
  go_ret
  exact ⟨rfl, rfl⟩

theorem nfix (s : Nat) (w : World) : Calls Try.prog 41 #[.pointer none, .int .i64 s] w fun ed w' => ed = .returned (.int .u64 0) ∧ w' = w := by
  have h1 := nerr w
  go_enter Try.func41, Try.ntmps41
  go_wp2_with (go_at_call 20; refine h1.mono ?_; rintro e w' ⟨rfl, rfl⟩; clear h1)
  go_ret
  exact ⟨rfl, rfl⟩

theorem nfix4 (w : World) : Calls Try.prog 15 #[.pointer none] w fun ed w' => ed = .returned (.int .u32 0) ∧ w' = w := by
  have h1 := nfix 4 w
  go_enter Try.func15, Try.ntmps15
  go_wp2_with (go_at_call 41; refine h1.mono ?_; rintro e w' ⟨rfl, rfl⟩; clear h1)
  go_ret
  exact ⟨rfl, rfl⟩

theorem nfix8 (w : World) : Calls Try.prog 16 #[.pointer none] w fun ed w' => ed = .returned (.int .u64 0) ∧ w' = w := by
  have h1 := nfix 8 w
  go_enter Try.func16, Try.ntmps16
  go_wp2_with (go_at_call 41; refine h1.mono ?_; rintro e w' ⟨rfl, rfl⟩; clear h1)
  go_ret
  exact ⟨rfl, rfl⟩

theorem nbyte (w : World) : Calls Try.prog 23 #[.pointer none] w fun ed w' => ed = .returned (.int .u8 0) ∧ w' = w := by
  have h1 := nfix 1 w
  go_enter Try.func23, Try.ntmps23
  go_wp2_with (go_at_call 41; refine h1.mono ?_; rintro e w' ⟨rfl, rfl⟩; clear h1)
  go_ret
  exact ⟨rfl, rfl⟩

theorem nnum (t : Int) (w : World) : Calls Try.prog 24 #[.pointer none, .int .i64 t] w fun ed w' => ed = .returned (.int .i64 0) ∧ w' = w := by
  have h1 := nerr w
  go_enter Try.func24, Try.ntmps24
  go_wp2_with (go_at_call 20; refine h1.mono ?_; rintro e w' ⟨rfl, rfl⟩; clear h1)
  go_ret
  exact ⟨rfl, rfl⟩

theorem nbytes (t : Int) (w : World) : Calls Try.prog 17 #[.pointer none, .int .i64 t] w fun ed w' => ed = .returned (.slice none 0 0) ∧ w' = w := by
  have h1 := nerr w
  go_enter Try.func17, Try.ntmps17
  go_wp2_with (go_at_call 20; refine h1.mono ?_; rintro e w' ⟨rfl, rfl⟩; clear h1)
  go_ret
  exact ⟨rfl, rfl⟩

end Go.Proofs.Ytjodeceaogngfaa
