/-
  What is told of a flight that nobody made, nil or the zero one: nothing.
  Conditions: none.
-/
import Derived.Test.YtmekbbddfmmbeaaFlAwake
namespace Go.Proofs.Ytmekbbddfmmbeaa.Fl
open Go.RowKit By
set_option linter.unusedVariables false
set_option linter.unusedSimpArgs false
set_option maxRecDepth 100000

def Void (v : Option Addr) (w : World) : Prop := v = none ∨ ∃ g, v = some ⟨g, 0, none⟩ ∧ w.cell? ⟨g, 0, none⟩ = some (.slice none 0 0) ∧ w.cell? ⟨g, 1, none⟩ = some (.map none)

section
variable {v : Option Addr} {w : World}

theorem Void.below {w' : World} (h : Void v w) (hb : Below w.heap.size w w') : Void v w' := by
  rcases h with h | ⟨g, h1, h2, h3⟩
  · exact .inl h
  · exact .inr ⟨g, h1, (hb.cell (p := ⟨g, 0, none⟩) (cell_lt' h2)).trans h2, (hb.cell (p := ⟨g, 1, none⟩) (cell_lt' h3)).trans h3⟩

theorem vmade (h : Void v w) : Calls Try.prog 23 #[.pointer v] w fun e w' => e = .returned (.bool false) ∧ w' = w := by
  have hne : ∀ w : World, (binOp .neq 47 (.map none) (.map none)).run Try.prog w = .ok (.bool false) w := fun _ => by kernel_rfl
  rcases h with rfl | ⟨g, rfl, h2, h3⟩
  · go_enter Try.func23, Try.ntmps23
    go_wp2_with fail
    go_ret
    exact ⟨rfl, rfl⟩
  · go_enter Try.func23, Try.ntmps23
    go_wp2_with fail
    go_ret
    exact ⟨rfl, rfl⟩

theorem vlen (h : Void v w) : Calls Try.prog 10 #[.pointer v] w fun e w' => e = .returned (.int .i64 0) ∧ w' = w := by
  rcases h with rfl | ⟨g, rfl, h2, h3⟩
  · go_enter Try.func10, Try.ntmps10
    go_wp2_with fail
    go_ret
    exact ⟨rfl, rfl⟩
  · go_enter Try.func10, Try.ntmps10
    go_wp2_with fail
    go_ret
    exact ⟨rfl, rfl⟩

theorem vhas (h : Void v w) : Calls Try.prog 25 #[.pointer v, .int .i64 0] w fun e w' => e = .returned (.bool false) ∧ w' = w := by
  have hL := vlen h
  clear h
  go_enter Try.func25, Try.ntmps25
  go_wp2_with (go_at_call 10; refine hL.mono ?_; rintro e w' ⟨rfl, hw⟩; subst w'; clear hL)
  go_ret
  exact ⟨rfl, rfl⟩

theorem vroom (h : Void v w) : Calls Try.prog 27 #[.pointer v] w fun e w' => e = .returned (.bool false) ∧ w' = w := by
  have hM := vmade h
  clear h
  go_enter Try.func27, Try.ntmps27
  go_wp2_with (go_at_call 23; refine hM.mono ?_; rintro e w' ⟨rfl, hw⟩; subst w'; clear hM)
  go_ret
  exact ⟨rfl, rfl⟩

theorem vpost (h : Void v w) (a b : Int) (x : Option Addr) (n c : Nat) : Calls Try.prog 17 #[.pointer v, .int .i64 a, .int .i64 b, .slice x n c] w fun e w' => e = .returned (.bool false) ∧ w' = w := by
  have hM := vroom h
  clear h
  go_enter Try.func17, Try.ntmps17
  go_wp2_with (go_at_call 27; refine hM.mono ?_; rintro e w' ⟨rfl, hw⟩; subst w'; clear hM)
  go_ret
  exact ⟨rfl, rfl⟩

theorem vlook (h : Void v w) : Calls Try.prog 13 #[.pointer v, .int .i64 0] w fun e w' => e = .returned (.tuple #[.int .i64 0, .int .i64 0, .slice none 0 0, .bool false]) ∧ w' = w := by
  have hM := vhas h
  clear h
  go_enter Try.func13, Try.ntmps13
  go_wp2_with (go_at_call 25; refine hM.mono ?_; rintro e w' ⟨rfl, hw⟩; subst w'; clear hM)
  refine bodyPost_ret (results_tmp4 rfl _ _ _) rfl ?_
  exact ⟨rfl, rfl⟩

theorem vdrop (h : Void v w) : Calls Try.prog 18 #[.pointer v, .int .i64 0] w fun e w' => e = .returned (.bool false) ∧ w' = w := by
  have hM := vhas h
  clear h
  go_enter Try.func18, Try.ntmps18
  go_wp2_with (go_at_call 25; refine hM.mono ?_; rintro e w' ⟨rfl, hw⟩; subst w'; clear hM)
  go_ret
  exact ⟨rfl, rfl⟩

theorem vtwice (h : Void v w) : Calls Try.prog 16 #[.pointer v, .int .i64 0] w fun e w' => e = .returned (.bool false) ∧ w' = w := by
  have hM := vhas h
  clear h
  go_enter Try.func16, Try.ntmps16
  go_wp2_with (go_at_call 25; refine hM.mono ?_; rintro e w' ⟨rfl, hw⟩; subst w'; clear hM)
  go_ret
  exact ⟨rfl, rfl⟩

theorem vparted (h : Void v w) (a b : Int) : Calls Try.prog 11 #[.pointer v, .int .i64 a, .int .i64 b] w fun e w' => e = .returned (.bool false) ∧ w' = w := by
  have hM := vmade h
  clear h
  go_enter Try.func11, Try.ntmps11
  go_wp2_with (go_at_call 23; refine hM.mono ?_; rintro e w' ⟨rfl, hw⟩; subst w'; clear hM)
  go_ret
  exact ⟨rfl, rfl⟩

theorem vpart (h : Void v w) (a b : Int) : Calls Try.prog 19 #[.pointer v, .int .i64 a, .int .i64 b] w fun e w' => e = .returned (.tuple #[]) ∧ w' = w := by
  have hM := vmade h
  clear h
  go_enter Try.func19, Try.ntmps19
  go_wp2_with (go_at_call 23; refine hM.mono ?_; rintro e w' ⟨rfl, hw⟩; subst w'; clear hM)
  refine bodyPost_end (results_none rfl _ _ _) rfl ?_
  exact ⟨rfl, rfl⟩

theorem vheal (h : Void v w) : Calls Try.prog 20 #[.pointer v] w fun e w' => e = .returned (.tuple #[]) ∧ w' = w := by
  have hM := vmade h
  clear h
  go_enter Try.func20, Try.ntmps20
  go_wp2_with (go_at_call 23; refine hM.mono ?_; rintro e w' ⟨rfl, hw⟩; subst w'; clear hM)
  refine bodyPost_end (results_none rfl _ _ _) rfl ?_
  exact ⟨rfl, rfl⟩

theorem vdeliver (h : Void v w) : Calls Try.prog 15 #[.pointer v, .int .i64 0] w fun e w' => e = .returned (.tuple #[.int .i64 0, .int .i64 0, .slice none 0 0, .bool false]) ∧ w' = w := by
  have hA := vlook h
  have hB := vdrop h
  clear h
  go_enter Try.func15, Try.ntmps15
  go_wp2_with (first
    | (go_at_call 13; refine hA.mono ?_; rintro e w' ⟨rfl, hw⟩; subst w'; clear hA)
    | (go_at_call 18; refine hB.mono ?_; rintro e w' ⟨rfl, hw⟩; subst w'; clear hB))
  refine bodyPost_ret (results_tmp4 rfl _ _ _) rfl ?_
  exact ⟨rfl, rfl⟩

theorem vclear (h : Void v w) (a : Int) : Calls Try.prog 21 #[.pointer v, .int .i64 a] w fun e w' => e = .returned (.int .i64 0) ∧ w' = w.alloc (.cells #[.int .i64 a] 3) := by
  have hM := vmade (h.below (w' := w.alloc (.cells #[.int .i64 a] 3)) ((Below.refl _ _).alloc (Nat.le_refl _) _))
  clear h
  go_enter Try.func21, Try.ntmps21
  go_wp2_with (go_at_call 23; refine hM.mono ?_; rintro e w' ⟨rfl, hw⟩; subst w'; clear hM)
  go_ret
  exact ⟨rfl, rfl⟩

end

end Go.Proofs.Ytmekbbddfmmbeaa.Fl
