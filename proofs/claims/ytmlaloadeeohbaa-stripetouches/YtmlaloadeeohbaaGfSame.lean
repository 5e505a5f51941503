/-
  The document's Same answers true of two slices of bytes that hold the same numbers.
  Conditions: a slice that is not empty lies in memory.
-/
import Derived.Test.YtmlaloadeeohbaaGfRows
namespace Go.Proofs.Ytmlaloadeeohbaa
open Go.RowKit Gf

def nums (f : Nat → Nat) (n : Nat) : List Int := (List.range n).map fun i => (f i : Int)

theorem nums_get (f : Nat → Nat) (n i : Nat) (h : i < n) : (nums f n).getD i 0 = (f i : Int) := by
  unfold nums
  simp [h]

theorem conv_row (w : World) (x : Option Addr) (n c : Nat) (f : Nat → Nat) (h : RowAt w x n f) :
    (convert 22 9 (.slice x n c)).run Try.prog w = .ok (.string (strOfNums (nums f n))) w := by
  by_cases h0 : n = 0
  · subst h0
    cases x with
    | none => exact run_convert_bytes_nil w 22 5 Try.underlying22 Try.underlying5 0 c 9 Try.underlying9
    | some a =>
      rw [run_convert_bytes_string w 22 9 5 _ 0 c Try.underlying22 Try.underlying5 Try.underlying9]
      rw [run_bytesToString w a 0 c [] (by rfl)]
      rfl
  · rcases h with h | ⟨b, o, rfl, _, hc⟩
    · exact absurd h h0
    · exact run_convert_bytes_arg w 22 5 Try.underlying22 Try.underlying5 b o n c (nums f n) (by simp [nums]) (fun i hi => by rw [nums_get f n i hi]; exact hc i hi) 9 Try.underlying9

end Go.Proofs.Ytmlaloadeeohbaa
