/-
  No cell of these rows narrows 'for every input' (looked for: loops, veiled, ifaces, maps, wideKeys, modest, calm, conditions, laid).
  DERIVED. THE GIVEN ROWS OF THIS SEAT. 5 by the template 'for every input the law returns true; each argument reads behind the call as it read before'; 0 by the template 'total and deterministic' (their statements: YthchbbebconojaaTotals.lean).
  GIVEN WITH THE SEED: the statements are not yours to turn. If you find one false, say at which input.
  Laid BY PROGRAM, IN A SANDBOX (cutbox-rows.mjs): the forced cells as the released guide's own fill.sh prints them over the translation 52eab67215383d05… (all of the seat's roots in one cut). By AI agents, Wed Nov 11 2026. No macro, syntax, notation, axiom, sorry.
-/
import Derived.Test.YthchbbebconojaaChecked
import GoSem.Claim
import GoSem.ClaimJoined
import GoSem.ClaimMapViews
import Derived.JoinedTies
import Derived.KernelRfl
namespace Go.Proofs.Ythchbbebconojaa
/- THE CELL 'sum', in the pinned program and in every row, IS THE sha256 OF THE DUMP (.gsa) THAT YthchbbebconojaaProg.lean LOADS. Nothing in Lean hashes anything: it is a label: what it is worth is what the hold of that sum in a sandbox is worth. -/
noncomputable def Try.pinned : Pinned := { name := "ythchbbebconojaa", sum := "52eab67215383d05d4fce244696f01dfa1266d6f7bab70dd316422b1c8fe9ff2", checked := Try.checked }
namespace Rows
def none {H : Type} : Left H := { results := [], args := [] }

/-- 'mooringlaw16.StrawDraws': WHATEVER THE INPUT: true; the input reads as it did. -/
def strawDrawsSpec : ChangeSpec := { name := "strawDraws", fn := fun _ => fun
  | [d1, d2, d3] => { results := [.lit (.bool true)], args := [d1, d2, d3] }
  | _ => none }
def strawDrawsRow : OpenClaim := { program := "ythchbbebconojaa", sum := "52eab67215383d05d4fce244696f01dfa1266d6f7bab70dd316422b1c8fe9ff2", func := "mooring/mooringlaw16.StrawDraws", spec := "strawDraws", apart := false }
def StrawDrawsSaid : Prop := strawDrawsRow.holds Try.pinned (OpenSpec.ofChange strawDrawsSpec)

/-- ITS FALSE NEIGHBOUR: 'it returns false'. Refute it at one input. -/
def strawDrawsWrong : ChangeSpec := { name := "strawDraws", fn := fun _ => fun
  | [d1, d2, d3] => { results := [.lit (.bool false)], args := [d1, d2, d3] }
  | _ => none }
def StrawDrawsWrongFalsely : Prop := strawDrawsRow.holds Try.pinned (OpenSpec.ofChange strawDrawsWrong)

/-- 'mooringlaw16.StrawChooses': WHATEVER THE INPUT: true; the input reads as it did. -/
def strawChoosesSpec : ChangeSpec := { name := "strawChooses", fn := fun _ => fun
  | [d1, d2, d3] => { results := [.lit (.bool true)], args := [d1, d2, d3] }
  | _ => none }
def strawChoosesRow : OpenClaim := { program := "ythchbbebconojaa", sum := "52eab67215383d05d4fce244696f01dfa1266d6f7bab70dd316422b1c8fe9ff2", func := "mooring/mooringlaw16.StrawChooses", spec := "strawChooses", apart := false }
def StrawChoosesSaid : Prop := strawChoosesRow.holds Try.pinned (OpenSpec.ofChange strawChoosesSpec)

/-- ITS FALSE NEIGHBOUR: 'it returns false'. Refute it at one input. -/
def strawChoosesWrong : ChangeSpec := { name := "strawChooses", fn := fun _ => fun
  | [d1, d2, d3] => { results := [.lit (.bool false)], args := [d1, d2, d3] }
  | _ => none }
def StrawChoosesWrongFalsely : Prop := strawChoosesRow.holds Try.pinned (OpenSpec.ofChange strawChoosesWrong)

/-- 'mooringlaw16.StrawMoves': WHATEVER THE INPUT: true; the input reads as it did. -/
def strawMovesSpec : ChangeSpec := { name := "strawMoves", fn := fun _ => fun
  | [d1, d2, d3] => { results := [.lit (.bool true)], args := [d1, d2, d3] }
  | _ => none }
def strawMovesRow : OpenClaim := { program := "ythchbbebconojaa", sum := "52eab67215383d05d4fce244696f01dfa1266d6f7bab70dd316422b1c8fe9ff2", func := "mooring/mooringlaw16.StrawMoves", spec := "strawMoves", apart := false }
def StrawMovesSaid : Prop := strawMovesRow.holds Try.pinned (OpenSpec.ofChange strawMovesSpec)

/-- ITS FALSE NEIGHBOUR: 'it returns false'. Refute it at one input. -/
def strawMovesWrong : ChangeSpec := { name := "strawMoves", fn := fun _ => fun
  | [d1, d2, d3] => { results := [.lit (.bool false)], args := [d1, d2, d3] }
  | _ => none }
def StrawMovesWrongFalsely : Prop := strawMovesRow.holds Try.pinned (OpenSpec.ofChange strawMovesWrong)

/-- 'mooringlaw16.StrawGrows': WHATEVER THE INPUT: true; the input reads as it did. -/
def strawGrowsSpec : ChangeSpec := { name := "strawGrows", fn := fun _ => fun
  | [d1, d2, d3] => { results := [.lit (.bool true)], args := [d1, d2, d3] }
  | _ => none }
def strawGrowsRow : OpenClaim := { program := "ythchbbebconojaa", sum := "52eab67215383d05d4fce244696f01dfa1266d6f7bab70dd316422b1c8fe9ff2", func := "mooring/mooringlaw16.StrawGrows", spec := "strawGrows", apart := false }
def StrawGrowsSaid : Prop := strawGrowsRow.holds Try.pinned (OpenSpec.ofChange strawGrowsSpec)

/-- ITS FALSE NEIGHBOUR: 'it returns false'. Refute it at one input. -/
def strawGrowsWrong : ChangeSpec := { name := "strawGrows", fn := fun _ => fun
  | [d1, d2, d3] => { results := [.lit (.bool false)], args := [d1, d2, d3] }
  | _ => none }
def StrawGrowsWrongFalsely : Prop := strawGrowsRow.holds Try.pinned (OpenSpec.ofChange strawGrowsWrong)

/-- 'mooringlaw16.StrawOrders': WHATEVER THE INPUT: true; the input reads as it did. -/
def strawOrdersSpec : ChangeSpec := { name := "strawOrders", fn := fun _ => fun
  | [d1, d2, d3] => { results := [.lit (.bool true)], args := [d1, d2, d3] }
  | _ => none }
def strawOrdersRow : OpenClaim := { program := "ythchbbebconojaa", sum := "52eab67215383d05d4fce244696f01dfa1266d6f7bab70dd316422b1c8fe9ff2", func := "mooring/mooringlaw16.StrawOrders", spec := "strawOrders", apart := false }
def StrawOrdersSaid : Prop := strawOrdersRow.holds Try.pinned (OpenSpec.ofChange strawOrdersSpec)

/-- ITS FALSE NEIGHBOUR: 'it returns false'. Refute it at one input. -/
def strawOrdersWrong : ChangeSpec := { name := "strawOrders", fn := fun _ => fun
  | [d1, d2, d3] => { results := [.lit (.bool false)], args := [d1, d2, d3] }
  | _ => none }
def StrawOrdersWrongFalsely : Prop := strawOrdersRow.holds Try.pinned (OpenSpec.ofChange strawOrdersWrong)

/- THE SECOND FORM. 'bulk': how many values and letters a reading holds, each counted each time it is reached (what is shared counts as often as it is met; a slice's spare places count too). A statement '..UptoSaid' is the law's where the arguments, and the package variables that the reading takes, are together of bulk at most 1048576: NARROWER than '..Said'. Prove '..Said' where nothing that the law and all that it calls make is longer than what came in: it says more and counts as full. Else prove '..UptoSaid'. A law counts once. -/
mutual
def uptoBulk {H : Type} : DataW H → Nat
  | .lit (.string bytes) => bytes.length + 1
  | .lit _ => 1
  | .nil => 1
  | .ptr d => uptoBulk d + 1
  | .slice elems spare => uptoBulkAll elems + uptoBulkAll spare + 1
  | .agg parts => uptoBulkAll parts + 1
  | .iface _ d => uptoBulk d + 1
  | .map entries => uptoBulkEntries entries + 1
  | .held _ => 1
def uptoBulkAll {H : Type} : List (DataW H) → Nat
  | [] => 0
  | d :: r => uptoBulk d + uptoBulkAll r
def uptoBulkEntries {H : Type} : List (Lit × DataW H) → Nat
  | [] => 0
  | x :: r => uptoBulkEntry x + uptoBulkEntries r
def uptoBulkEntry {H : Type} : Lit × DataW H → Nat
  | (.string bytes, d) => bytes.length + uptoBulk d + 1
  | (_, d) => uptoBulk d + 1
 end
def uptoSmall : (H : Type) → List (DataW H) → Bool := fun _ ds => decide (uptoBulkAll ds ≤ 1048576)
def OpenSpec.upto (s : _root_.Go.ChangeSpec) : _root_.Go.OpenSpec := { _root_.Go.OpenSpec.ofChange s with cond := some uptoSmall }

/-- 'mooringlaw16.StrawDraws', WHERE WHAT IT READS IS OF BULK AT MOST 1048576: true; the input reads as it did. -/
def strawDrawsUptoRow : OpenClaim := { program := "ythchbbebconojaa", sum := "52eab67215383d05d4fce244696f01dfa1266d6f7bab70dd316422b1c8fe9ff2", func := "mooring/mooringlaw16.StrawDraws", spec := "strawDraws", apart := false, narrowed := true }
def StrawDrawsUptoSaid : Prop := strawDrawsUptoRow.holds Try.pinned (OpenSpec.upto strawDrawsSpec)

/-- 'mooringlaw16.StrawChooses', WHERE WHAT IT READS IS OF BULK AT MOST 1048576: true; the input reads as it did. -/
def strawChoosesUptoRow : OpenClaim := { program := "ythchbbebconojaa", sum := "52eab67215383d05d4fce244696f01dfa1266d6f7bab70dd316422b1c8fe9ff2", func := "mooring/mooringlaw16.StrawChooses", spec := "strawChooses", apart := false, narrowed := true }
def StrawChoosesUptoSaid : Prop := strawChoosesUptoRow.holds Try.pinned (OpenSpec.upto strawChoosesSpec)

/-- 'mooringlaw16.StrawMoves', WHERE WHAT IT READS IS OF BULK AT MOST 1048576: true; the input reads as it did. -/
def strawMovesUptoRow : OpenClaim := { program := "ythchbbebconojaa", sum := "52eab67215383d05d4fce244696f01dfa1266d6f7bab70dd316422b1c8fe9ff2", func := "mooring/mooringlaw16.StrawMoves", spec := "strawMoves", apart := false, narrowed := true }
def StrawMovesUptoSaid : Prop := strawMovesUptoRow.holds Try.pinned (OpenSpec.upto strawMovesSpec)

/-- 'mooringlaw16.StrawGrows', WHERE WHAT IT READS IS OF BULK AT MOST 1048576: true; the input reads as it did. -/
def strawGrowsUptoRow : OpenClaim := { program := "ythchbbebconojaa", sum := "52eab67215383d05d4fce244696f01dfa1266d6f7bab70dd316422b1c8fe9ff2", func := "mooring/mooringlaw16.StrawGrows", spec := "strawGrows", apart := false, narrowed := true }
def StrawGrowsUptoSaid : Prop := strawGrowsUptoRow.holds Try.pinned (OpenSpec.upto strawGrowsSpec)

/-- 'mooringlaw16.StrawOrders', WHERE WHAT IT READS IS OF BULK AT MOST 1048576: true; the input reads as it did. -/
def strawOrdersUptoRow : OpenClaim := { program := "ythchbbebconojaa", sum := "52eab67215383d05d4fce244696f01dfa1266d6f7bab70dd316422b1c8fe9ff2", func := "mooring/mooringlaw16.StrawOrders", spec := "strawOrders", apart := false, narrowed := true }
def StrawOrdersUptoSaid : Prop := strawOrdersUptoRow.holds Try.pinned (OpenSpec.upto strawOrdersSpec)

end Rows
end Go.Proofs.Ythchbbebconojaa
