/-
  No cell of these rows narrows 'for every input' (looked for: loops, veiled, ifaces, maps, wideKeys, modest, calm, conditions, laid).
  DERIVED. THE GIVEN ROWS OF THIS SEAT. 5 by the template 'for every input the law returns true; each argument reads behind the call as it read before'; 0 by the template 'total and deterministic' (their statements: YtgcjecmgjncclaaTotals.lean).
  GIVEN WITH THE SEED: the statements are not yours to turn. If you find one false, say at which input.
  Laid BY PROGRAM, IN A SANDBOX (cutbox-rows.mjs): the forced cells as the released guide's own fill.sh prints them over the translation 67ee4c3f6b4dd006… (all of the seat's roots in one cut). By AI agents, Wed Nov 11 2026. No macro, syntax, notation, axiom, sorry.
-/
import Derived.Test.YtgcjecmgjncclaaChecked
import GoSem.Claim
import GoSem.ClaimJoined
import GoSem.ClaimMapViews
import Derived.JoinedTies
import Derived.KernelRfl
namespace Go.Proofs.Ytgcjecmgjncclaa
/- THE CELL 'sum', in the pinned program and in every row, IS THE sha256 OF THE DUMP (.gsa) THAT YtgcjecmgjncclaaProg.lean LOADS. Nothing in Lean hashes anything: it is a label: what it is worth is what the hold of that sum in a sandbox is worth. -/
noncomputable def Try.pinned : Pinned := { name := "ytgcjecmgjncclaa", sum := "67ee4c3f6b4dd00637231ae7c0e845899e77126cf44af2f61b82de354290a963", checked := Try.checked }
namespace Rows
def none {H : Type} : Left H := { results := [], args := [] }

/-- 'mooringlaw22.PeerTells': WHATEVER THE INPUT: true; the input reads as it did. -/
def peerTellsSpec : ChangeSpec := { name := "peerTells", fn := fun _ => fun
  | [d1, d2] => { results := [.lit (.bool true)], args := [d1, d2] }
  | _ => none }
def peerTellsRow : OpenClaim := { program := "ytgcjecmgjncclaa", sum := "67ee4c3f6b4dd00637231ae7c0e845899e77126cf44af2f61b82de354290a963", func := "mooring/mooringlaw22.PeerTells", spec := "peerTells", unfollowed := true, recurses := true, apart := false }
def PeerTellsSaid : Prop := peerTellsRow.holds Try.pinned (OpenSpec.ofChange peerTellsSpec)

/-- ITS FALSE NEIGHBOUR: 'it returns false'. Refute it at one input. -/
def peerTellsWrong : ChangeSpec := { name := "peerTells", fn := fun _ => fun
  | [d1, d2] => { results := [.lit (.bool false)], args := [d1, d2] }
  | _ => none }
def PeerTellsWrongFalsely : Prop := peerTellsRow.holds Try.pinned (OpenSpec.ofChange peerTellsWrong)

/-- 'mooringlaw22.PeerChooses': WHATEVER THE INPUT: true; the input reads as it did. -/
def peerChoosesSpec : ChangeSpec := { name := "peerChooses", fn := fun _ => fun
  | [d1, d2, d3] => { results := [.lit (.bool true)], args := [d1, d2, d3] }
  | _ => none }
def peerChoosesRow : OpenClaim := { program := "ytgcjecmgjncclaa", sum := "67ee4c3f6b4dd00637231ae7c0e845899e77126cf44af2f61b82de354290a963", func := "mooring/mooringlaw22.PeerChooses", spec := "peerChooses", unfollowed := true, recurses := true, apart := false }
def PeerChoosesSaid : Prop := peerChoosesRow.holds Try.pinned (OpenSpec.ofChange peerChoosesSpec)

/-- ITS FALSE NEIGHBOUR: 'it returns false'. Refute it at one input. -/
def peerChoosesWrong : ChangeSpec := { name := "peerChooses", fn := fun _ => fun
  | [d1, d2, d3] => { results := [.lit (.bool false)], args := [d1, d2, d3] }
  | _ => none }
def PeerChoosesWrongFalsely : Prop := peerChoosesRow.holds Try.pinned (OpenSpec.ofChange peerChoosesWrong)

/-- 'mooringlaw22.PeerKeeps': WHATEVER THE INPUT: true; the input reads as it did. -/
def peerKeepsSpec : ChangeSpec := { name := "peerKeeps", fn := fun _ => fun
  | [d1, d2, d3] => { results := [.lit (.bool true)], args := [d1, d2, d3] }
  | _ => none }
def peerKeepsRow : OpenClaim := { program := "ytgcjecmgjncclaa", sum := "67ee4c3f6b4dd00637231ae7c0e845899e77126cf44af2f61b82de354290a963", func := "mooring/mooringlaw22.PeerKeeps", spec := "peerKeeps", unfollowed := true, recurses := true, apart := false }
def PeerKeepsSaid : Prop := peerKeepsRow.holds Try.pinned (OpenSpec.ofChange peerKeepsSpec)

/-- ITS FALSE NEIGHBOUR: 'it returns false'. Refute it at one input. -/
def peerKeepsWrong : ChangeSpec := { name := "peerKeeps", fn := fun _ => fun
  | [d1, d2, d3] => { results := [.lit (.bool false)], args := [d1, d2, d3] }
  | _ => none }
def PeerKeepsWrongFalsely : Prop := peerKeepsRow.holds Try.pinned (OpenSpec.ofChange peerKeepsWrong)

/-- 'mooringlaw22.PeerMore': WHATEVER THE INPUT: true; the input reads as it did. -/
def peerMoreSpec : ChangeSpec := { name := "peerMore", fn := fun _ => fun
  | [d1, d2, d3] => { results := [.lit (.bool true)], args := [d1, d2, d3] }
  | _ => none }
def peerMoreRow : OpenClaim := { program := "ytgcjecmgjncclaa", sum := "67ee4c3f6b4dd00637231ae7c0e845899e77126cf44af2f61b82de354290a963", func := "mooring/mooringlaw22.PeerMore", spec := "peerMore", unfollowed := true, recurses := true, apart := false }
def PeerMoreSaid : Prop := peerMoreRow.holds Try.pinned (OpenSpec.ofChange peerMoreSpec)

/-- ITS FALSE NEIGHBOUR: 'it returns false'. Refute it at one input. -/
def peerMoreWrong : ChangeSpec := { name := "peerMore", fn := fun _ => fun
  | [d1, d2, d3] => { results := [.lit (.bool false)], args := [d1, d2, d3] }
  | _ => none }
def PeerMoreWrongFalsely : Prop := peerMoreRow.holds Try.pinned (OpenSpec.ofChange peerMoreWrong)

/-- 'mooringlaw22.PeerEmpty': WHATEVER THE INPUT: true; the input reads as it did. -/
def peerEmptySpec : ChangeSpec := { name := "peerEmpty", fn := fun _ => fun
  | [d1, d2, d3] => { results := [.lit (.bool true)], args := [d1, d2, d3] }
  | _ => none }
def peerEmptyRow : OpenClaim := { program := "ytgcjecmgjncclaa", sum := "67ee4c3f6b4dd00637231ae7c0e845899e77126cf44af2f61b82de354290a963", func := "mooring/mooringlaw22.PeerEmpty", spec := "peerEmpty", unfollowed := true, recurses := true, apart := false }
def PeerEmptySaid : Prop := peerEmptyRow.holds Try.pinned (OpenSpec.ofChange peerEmptySpec)

/-- ITS FALSE NEIGHBOUR: 'it returns false'. Refute it at one input. -/
def peerEmptyWrong : ChangeSpec := { name := "peerEmpty", fn := fun _ => fun
  | [d1, d2, d3] => { results := [.lit (.bool false)], args := [d1, d2, d3] }
  | _ => none }
def PeerEmptyWrongFalsely : Prop := peerEmptyRow.holds Try.pinned (OpenSpec.ofChange peerEmptyWrong)

/- THE SECOND FORM. 'bulk': how many values and letters a reading holds, each counted each time it is reached (what is shared counts as often as it is met; a slice's spare places count too). A statement '..UptoSaid' is the law's where the arguments, and the package variables that the reading takes, are together of bulk at most 1048576: NARROWER than '..Said'. Prove '..Said' where nothing that the law and all that it calls make is longer than what came in: it says more and counts as full. Else prove '..UptoSaid'. A law counts once. -/
mutual
def uptoBulk {H : Type} : DataW H → Nat
  | .lit (.string bytes) => bytes.length + 1
  | .lit _ => 1
  | .nil => 1
  | .ptr d => uptoBulk d + 1
  | .slice elems spare => uptoBulkAll elems + uptoBulkAll spare + 1
  | .agg parts => uptoBulkAll parts + 1
  | .iface _ d => uptoBulk d + 1
  | .map entries => uptoBulkEntries entries + 1
  | .held _ => 1
def uptoBulkAll {H : Type} : List (DataW H) → Nat
  | [] => 0
  | d :: r => uptoBulk d + uptoBulkAll r
def uptoBulkEntries {H : Type} : List (Lit × DataW H) → Nat
  | [] => 0
  | x :: r => uptoBulkEntry x + uptoBulkEntries r
def uptoBulkEntry {H : Type} : Lit × DataW H → Nat
  | (.string bytes, d) => bytes.length + uptoBulk d + 1
  | (_, d) => uptoBulk d + 1
 end
def uptoSmall : (H : Type) → List (DataW H) → Bool := fun _ ds => decide (uptoBulkAll ds ≤ 1048576)
def OpenSpec.upto (s : _root_.Go.ChangeSpec) : _root_.Go.OpenSpec := { _root_.Go.OpenSpec.ofChange s with cond := some uptoSmall }

/-- 'mooringlaw22.PeerTells', WHERE WHAT IT READS IS OF BULK AT MOST 1048576: true; the input reads as it did. -/
def peerTellsUptoRow : OpenClaim := { program := "ytgcjecmgjncclaa", sum := "67ee4c3f6b4dd00637231ae7c0e845899e77126cf44af2f61b82de354290a963", func := "mooring/mooringlaw22.PeerTells", spec := "peerTells", unfollowed := true, recurses := true, apart := false, narrowed := true }
def PeerTellsUptoSaid : Prop := peerTellsUptoRow.holds Try.pinned (OpenSpec.upto peerTellsSpec)

/-- 'mooringlaw22.PeerChooses', WHERE WHAT IT READS IS OF BULK AT MOST 1048576: true; the input reads as it did. -/
def peerChoosesUptoRow : OpenClaim := { program := "ytgcjecmgjncclaa", sum := "67ee4c3f6b4dd00637231ae7c0e845899e77126cf44af2f61b82de354290a963", func := "mooring/mooringlaw22.PeerChooses", spec := "peerChooses", unfollowed := true, recurses := true, apart := false, narrowed := true }
def PeerChoosesUptoSaid : Prop := peerChoosesUptoRow.holds Try.pinned (OpenSpec.upto peerChoosesSpec)

/-- 'mooringlaw22.PeerKeeps', WHERE WHAT IT READS IS OF BULK AT MOST 1048576: true; the input reads as it did. -/
def peerKeepsUptoRow : OpenClaim := { program := "ytgcjecmgjncclaa", sum := "67ee4c3f6b4dd00637231ae7c0e845899e77126cf44af2f61b82de354290a963", func := "mooring/mooringlaw22.PeerKeeps", spec := "peerKeeps", unfollowed := true, recurses := true, apart := false, narrowed := true }
def PeerKeepsUptoSaid : Prop := peerKeepsUptoRow.holds Try.pinned (OpenSpec.upto peerKeepsSpec)

/-- 'mooringlaw22.PeerMore', WHERE WHAT IT READS IS OF BULK AT MOST 1048576: true; the input reads as it did. -/
def peerMoreUptoRow : OpenClaim := { program := "ytgcjecmgjncclaa", sum := "67ee4c3f6b4dd00637231ae7c0e845899e77126cf44af2f61b82de354290a963", func := "mooring/mooringlaw22.PeerMore", spec := "peerMore", unfollowed := true, recurses := true, apart := false, narrowed := true }
def PeerMoreUptoSaid : Prop := peerMoreUptoRow.holds Try.pinned (OpenSpec.upto peerMoreSpec)

/-- 'mooringlaw22.PeerEmpty', WHERE WHAT IT READS IS OF BULK AT MOST 1048576: true; the input reads as it did. -/
def peerEmptyUptoRow : OpenClaim := { program := "ytgcjecmgjncclaa", sum := "67ee4c3f6b4dd00637231ae7c0e845899e77126cf44af2f61b82de354290a963", func := "mooring/mooringlaw22.PeerEmpty", spec := "peerEmpty", unfollowed := true, recurses := true, apart := false, narrowed := true }
def PeerEmptyUptoSaid : Prop := peerEmptyUptoRow.holds Try.pinned (OpenSpec.upto peerEmptySpec)

end Rows
end Go.Proofs.Ytgcjecmgjncclaa
