/-
  No cell of these rows narrows 'for every input' (looked for: loops, veiled, ifaces, maps, wideKeys, modest, calm, conditions, laid).
  DERIVED. THE GIVEN ROWS OF THIS SEAT. 6 by the template 'for every input the law returns true; each argument reads behind the call as it read before'; 0 by the template 'total and deterministic' (their statements: YtnfflmndejbepaaTotals.lean).
  GIVEN WITH THE SEED: the statements are not yours to turn. If you find one false, say at which input.
  Laid BY PROGRAM, IN A SANDBOX (cutbox-rows.mjs): the forced cells as the released guide's own fill.sh prints them over the translation 07e686ecaed02787… (all of the seat's roots in one cut). By AI agents, Wed Nov 11 2026. No macro, syntax, notation, axiom, sorry.
-/
import Derived.Test.YtnfflmndejbepaaChecked
import GoSem.Claim
import GoSem.ClaimJoined
import GoSem.ClaimMapViews
import Derived.JoinedTies
import Derived.KernelRfl
namespace Go.Proofs.Ytnfflmndejbepaa
/- THE CELL 'sum', in the pinned program and in every row, IS THE sha256 OF THE DUMP (.gsa) THAT YtnfflmndejbepaaProg.lean LOADS. Nothing in Lean hashes anything: it is a label: what it is worth is what the hold of that sum in a sandbox is worth. -/
noncomputable def Try.pinned : Pinned := { name := "ytnfflmndejbepaa", sum := "07e686ecaed027871ab09e0306cbdabebfddb19f131810b4fddcd064b53a6f93", checked := Try.checked }
namespace Rows
def none {H : Type} : Left H := { results := [], args := [] }

/-- 'mooringlaw21.ShardChecks': WHATEVER THE INPUT: true; the input reads as it did. -/
def shardChecksSpec : ChangeSpec := { name := "shardChecks", fn := fun _ => fun
  | [d1, d2, d3] => { results := [.lit (.bool true)], args := [d1, d2, d3] }
  | _ => none }
def shardChecksRow : OpenClaim := { program := "ytnfflmndejbepaa", sum := "07e686ecaed027871ab09e0306cbdabebfddb19f131810b4fddcd064b53a6f93", func := "mooring/mooringlaw21.ShardChecks", spec := "shardChecks", inPlace := ["internal/bytealg.abigen_runtime_cmpstring", "slices.overlaps[mooring/api.Item]"], unfollowed := true, recurses := true, apart := false }
def ShardChecksSaid : Prop := shardChecksRow.holds Try.pinned (OpenSpec.ofChange shardChecksSpec)

/-- ITS FALSE NEIGHBOUR: 'it returns false'. Refute it at one input. -/
def shardChecksWrong : ChangeSpec := { name := "shardChecks", fn := fun _ => fun
  | [d1, d2, d3] => { results := [.lit (.bool false)], args := [d1, d2, d3] }
  | _ => none }
def ShardChecksWrongFalsely : Prop := shardChecksRow.holds Try.pinned (OpenSpec.ofChange shardChecksWrong)

/-- 'mooringlaw21.ShardBacks': WHATEVER THE INPUT: true; the input reads as it did. -/
def shardBacksSpec : ChangeSpec := { name := "shardBacks", fn := fun _ => fun
  | [d1, d2] => { results := [.lit (.bool true)], args := [d1, d2] }
  | _ => none }
def shardBacksRow : OpenClaim := { program := "ytnfflmndejbepaa", sum := "07e686ecaed027871ab09e0306cbdabebfddb19f131810b4fddcd064b53a6f93", func := "mooring/mooringlaw21.ShardBacks", spec := "shardBacks", inPlace := ["internal/bytealg.abigen_runtime_cmpstring", "slices.overlaps[mooring/api.Item]"], unfollowed := true, recurses := true, apart := false }
def ShardBacksSaid : Prop := shardBacksRow.holds Try.pinned (OpenSpec.ofChange shardBacksSpec)

/-- ITS FALSE NEIGHBOUR: 'it returns false'. Refute it at one input. -/
def shardBacksWrong : ChangeSpec := { name := "shardBacks", fn := fun _ => fun
  | [d1, d2] => { results := [.lit (.bool false)], args := [d1, d2] }
  | _ => none }
def ShardBacksWrongFalsely : Prop := shardBacksRow.holds Try.pinned (OpenSpec.ofChange shardBacksWrong)

/-- 'mooringlaw21.ShardStages': WHATEVER THE INPUT: true; the input reads as it did. -/
def shardStagesSpec : ChangeSpec := { name := "shardStages", fn := fun _ => fun
  | [d1, d2, d3] => { results := [.lit (.bool true)], args := [d1, d2, d3] }
  | _ => none }
def shardStagesRow : OpenClaim := { program := "ytnfflmndejbepaa", sum := "07e686ecaed027871ab09e0306cbdabebfddb19f131810b4fddcd064b53a6f93", func := "mooring/mooringlaw21.ShardStages", spec := "shardStages", inPlace := ["internal/bytealg.abigen_runtime_cmpstring", "slices.overlaps[mooring/api.Item]"], unfollowed := true, recurses := true, apart := false }
def ShardStagesSaid : Prop := shardStagesRow.holds Try.pinned (OpenSpec.ofChange shardStagesSpec)

/-- ITS FALSE NEIGHBOUR: 'it returns false'. Refute it at one input. -/
def shardStagesWrong : ChangeSpec := { name := "shardStages", fn := fun _ => fun
  | [d1, d2, d3] => { results := [.lit (.bool false)], args := [d1, d2, d3] }
  | _ => none }
def ShardStagesWrongFalsely : Prop := shardStagesRow.holds Try.pinned (OpenSpec.ofChange shardStagesWrong)

/-- 'mooringlaw21.ShardWrites': WHATEVER THE INPUT: true; the input reads as it did. -/
def shardWritesSpec : ChangeSpec := { name := "shardWrites", fn := fun _ => fun
  | [d1, d2, d3] => { results := [.lit (.bool true)], args := [d1, d2, d3] }
  | _ => none }
def shardWritesRow : OpenClaim := { program := "ytnfflmndejbepaa", sum := "07e686ecaed027871ab09e0306cbdabebfddb19f131810b4fddcd064b53a6f93", func := "mooring/mooringlaw21.ShardWrites", spec := "shardWrites", inPlace := ["internal/bytealg.abigen_runtime_cmpstring", "slices.overlaps[mooring/api.Item]"], unfollowed := true, recurses := true, apart := false }
def ShardWritesSaid : Prop := shardWritesRow.holds Try.pinned (OpenSpec.ofChange shardWritesSpec)

/-- ITS FALSE NEIGHBOUR: 'it returns false'. Refute it at one input. -/
def shardWritesWrong : ChangeSpec := { name := "shardWrites", fn := fun _ => fun
  | [d1, d2, d3] => { results := [.lit (.bool false)], args := [d1, d2, d3] }
  | _ => none }
def ShardWritesWrongFalsely : Prop := shardWritesRow.holds Try.pinned (OpenSpec.ofChange shardWritesWrong)

/-- 'mooringlaw21.ShardKeeps': WHATEVER THE INPUT: true; the input reads as it did. -/
def shardKeepsSpec : ChangeSpec := { name := "shardKeeps", fn := fun _ => fun
  | [d1, d2, d3] => { results := [.lit (.bool true)], args := [d1, d2, d3] }
  | _ => none }
def shardKeepsRow : OpenClaim := { program := "ytnfflmndejbepaa", sum := "07e686ecaed027871ab09e0306cbdabebfddb19f131810b4fddcd064b53a6f93", func := "mooring/mooringlaw21.ShardKeeps", spec := "shardKeeps", inPlace := ["internal/bytealg.abigen_runtime_cmpstring", "slices.overlaps[mooring/api.Item]"], unfollowed := true, recurses := true, apart := false }
def ShardKeepsSaid : Prop := shardKeepsRow.holds Try.pinned (OpenSpec.ofChange shardKeepsSpec)

/-- ITS FALSE NEIGHBOUR: 'it returns false'. Refute it at one input. -/
def shardKeepsWrong : ChangeSpec := { name := "shardKeeps", fn := fun _ => fun
  | [d1, d2, d3] => { results := [.lit (.bool false)], args := [d1, d2, d3] }
  | _ => none }
def ShardKeepsWrongFalsely : Prop := shardKeepsRow.holds Try.pinned (OpenSpec.ofChange shardKeepsWrong)

/-- 'mooringlaw21.ShardUndoes': WHATEVER THE INPUT: true; the input reads as it did. -/
def shardUndoesSpec : ChangeSpec := { name := "shardUndoes", fn := fun _ => fun
  | [d1, d2] => { results := [.lit (.bool true)], args := [d1, d2] }
  | _ => none }
def shardUndoesRow : OpenClaim := { program := "ytnfflmndejbepaa", sum := "07e686ecaed027871ab09e0306cbdabebfddb19f131810b4fddcd064b53a6f93", func := "mooring/mooringlaw21.ShardUndoes", spec := "shardUndoes", inPlace := ["internal/bytealg.abigen_runtime_cmpstring", "slices.overlaps[mooring/api.Item]"], unfollowed := true, recurses := true, apart := false }
def ShardUndoesSaid : Prop := shardUndoesRow.holds Try.pinned (OpenSpec.ofChange shardUndoesSpec)

/-- ITS FALSE NEIGHBOUR: 'it returns false'. Refute it at one input. -/
def shardUndoesWrong : ChangeSpec := { name := "shardUndoes", fn := fun _ => fun
  | [d1, d2] => { results := [.lit (.bool false)], args := [d1, d2] }
  | _ => none }
def ShardUndoesWrongFalsely : Prop := shardUndoesRow.holds Try.pinned (OpenSpec.ofChange shardUndoesWrong)

/- THE SECOND FORM. 'bulk': how many values and letters a reading holds, each counted each time it is reached (what is shared counts as often as it is met; a slice's spare places count too). A statement '..UptoSaid' is the law's where the arguments, and the package variables that the reading takes, are together of bulk at most 1048576: NARROWER than '..Said'. Prove '..Said' where nothing that the law and all that it calls make is longer than what came in: it says more and counts as full. Else prove '..UptoSaid'. A law counts once. -/
mutual
def uptoBulk {H : Type} : DataW H → Nat
  | .lit (.string bytes) => bytes.length + 1
  | .lit _ => 1
  | .nil => 1
  | .ptr d => uptoBulk d + 1
  | .slice elems spare => uptoBulkAll elems + uptoBulkAll spare + 1
  | .agg parts => uptoBulkAll parts + 1
  | .iface _ d => uptoBulk d + 1
  | .map entries => uptoBulkEntries entries + 1
  | .held _ => 1
def uptoBulkAll {H : Type} : List (DataW H) → Nat
  | [] => 0
  | d :: r => uptoBulk d + uptoBulkAll r
def uptoBulkEntries {H : Type} : List (Lit × DataW H) → Nat
  | [] => 0
  | x :: r => uptoBulkEntry x + uptoBulkEntries r
def uptoBulkEntry {H : Type} : Lit × DataW H → Nat
  | (.string bytes, d) => bytes.length + uptoBulk d + 1
  | (_, d) => uptoBulk d + 1
 end
def uptoSmall : (H : Type) → List (DataW H) → Bool := fun _ ds => decide (uptoBulkAll ds ≤ 1048576)
def OpenSpec.upto (s : _root_.Go.ChangeSpec) : _root_.Go.OpenSpec := { _root_.Go.OpenSpec.ofChange s with cond := some uptoSmall }

/-- 'mooringlaw21.ShardChecks', WHERE WHAT IT READS IS OF BULK AT MOST 1048576: true; the input reads as it did. -/
def shardChecksUptoRow : OpenClaim := { program := "ytnfflmndejbepaa", sum := "07e686ecaed027871ab09e0306cbdabebfddb19f131810b4fddcd064b53a6f93", func := "mooring/mooringlaw21.ShardChecks", spec := "shardChecks", inPlace := ["internal/bytealg.abigen_runtime_cmpstring", "slices.overlaps[mooring/api.Item]"], unfollowed := true, recurses := true, apart := false, narrowed := true }
def ShardChecksUptoSaid : Prop := shardChecksUptoRow.holds Try.pinned (OpenSpec.upto shardChecksSpec)

/-- 'mooringlaw21.ShardBacks', WHERE WHAT IT READS IS OF BULK AT MOST 1048576: true; the input reads as it did. -/
def shardBacksUptoRow : OpenClaim := { program := "ytnfflmndejbepaa", sum := "07e686ecaed027871ab09e0306cbdabebfddb19f131810b4fddcd064b53a6f93", func := "mooring/mooringlaw21.ShardBacks", spec := "shardBacks", inPlace := ["internal/bytealg.abigen_runtime_cmpstring", "slices.overlaps[mooring/api.Item]"], unfollowed := true, recurses := true, apart := false, narrowed := true }
def ShardBacksUptoSaid : Prop := shardBacksUptoRow.holds Try.pinned (OpenSpec.upto shardBacksSpec)

/-- 'mooringlaw21.ShardStages', WHERE WHAT IT READS IS OF BULK AT MOST 1048576: true; the input reads as it did. -/
def shardStagesUptoRow : OpenClaim := { program := "ytnfflmndejbepaa", sum := "07e686ecaed027871ab09e0306cbdabebfddb19f131810b4fddcd064b53a6f93", func := "mooring/mooringlaw21.ShardStages", spec := "shardStages", inPlace := ["internal/bytealg.abigen_runtime_cmpstring", "slices.overlaps[mooring/api.Item]"], unfollowed := true, recurses := true, apart := false, narrowed := true }
def ShardStagesUptoSaid : Prop := shardStagesUptoRow.holds Try.pinned (OpenSpec.upto shardStagesSpec)

/-- 'mooringlaw21.ShardWrites', WHERE WHAT IT READS IS OF BULK AT MOST 1048576: true; the input reads as it did. -/
def shardWritesUptoRow : OpenClaim := { program := "ytnfflmndejbepaa", sum := "07e686ecaed027871ab09e0306cbdabebfddb19f131810b4fddcd064b53a6f93", func := "mooring/mooringlaw21.ShardWrites", spec := "shardWrites", inPlace := ["internal/bytealg.abigen_runtime_cmpstring", "slices.overlaps[mooring/api.Item]"], unfollowed := true, recurses := true, apart := false, narrowed := true }
def ShardWritesUptoSaid : Prop := shardWritesUptoRow.holds Try.pinned (OpenSpec.upto shardWritesSpec)

/-- 'mooringlaw21.ShardKeeps', WHERE WHAT IT READS IS OF BULK AT MOST 1048576: true; the input reads as it did. -/
def shardKeepsUptoRow : OpenClaim := { program := "ytnfflmndejbepaa", sum := "07e686ecaed027871ab09e0306cbdabebfddb19f131810b4fddcd064b53a6f93", func := "mooring/mooringlaw21.ShardKeeps", spec := "shardKeeps", inPlace := ["internal/bytealg.abigen_runtime_cmpstring", "slices.overlaps[mooring/api.Item]"], unfollowed := true, recurses := true, apart := false, narrowed := true }
def ShardKeepsUptoSaid : Prop := shardKeepsUptoRow.holds Try.pinned (OpenSpec.upto shardKeepsSpec)

/-- 'mooringlaw21.ShardUndoes', WHERE WHAT IT READS IS OF BULK AT MOST 1048576: true; the input reads as it did. -/
def shardUndoesUptoRow : OpenClaim := { program := "ytnfflmndejbepaa", sum := "07e686ecaed027871ab09e0306cbdabebfddb19f131810b4fddcd064b53a6f93", func := "mooring/mooringlaw21.ShardUndoes", spec := "shardUndoes", inPlace := ["internal/bytealg.abigen_runtime_cmpstring", "slices.overlaps[mooring/api.Item]"], unfollowed := true, recurses := true, apart := false, narrowed := true }
def ShardUndoesUptoSaid : Prop := shardUndoesUptoRow.holds Try.pinned (OpenSpec.upto shardUndoesSpec)

end Rows
end Go.Proofs.Ytnfflmndejbepaa
