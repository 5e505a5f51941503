/-
  No cell of these rows narrows 'for every input' (looked for: loops, veiled, ifaces, maps, wideKeys, modest, calm, conditions, laid).
  DERIVED. THE GIVEN ROWS OF THIS SEAT. 4 by the template 'for every input the law returns true; each argument reads behind the call as it read before'; 0 by the template 'total and deterministic' (their statements: YtgfjmkjgagogpaaGreatTotals.lean).
  GIVEN WITH THE SEED: the statements are not yours to turn. If you find one false, say at which input.
  Laid BY PROGRAM, IN A SANDBOX (cutbox-rows.mjs): the forced cells as the released guide's own fill.sh prints them over the translation b553453c0d13bd91… (all of the seat's roots in one cut). By AI agents, Wed Nov 11 2026. No macro, syntax, notation, axiom, sorry.
-/
import Derived.Test.YtgfjmkjgagogpaaGreatChecked
import GoSem.Claim
import GoSem.ClaimJoined
import GoSem.ClaimMapViews
import Derived.JoinedTies
import Derived.KernelRfl
namespace Go.Proofs.YtgfjmkjgagogpaaGreat
/- THE CELL 'sum', in the pinned program and in every row, IS THE sha256 OF THE DUMP (.gsa) THAT YtgfjmkjgagogpaaGreatProg.lean LOADS. Nothing in Lean hashes anything: it is a label: what it is worth is what the hold of that sum in a sandbox is worth. -/
noncomputable def Tryz.pinned : Pinned := { name := "ytgfjmkjgagogpaagreat", sum := "b553453c0d13bd917d95927b7507d6321c1d1950edab46fe695c713c662b5461", checked := Tryz.checked }
namespace Rows
def none {H : Type} : Left H := { results := [], args := [] }

/-- 'mooringlaw18.PlacePgs': WHATEVER THE INPUT: true; the input reads as it did. -/
def placePgsSpec : ChangeSpec := { name := "placePgs", fn := fun _ => fun
  | [d1, d2] => { results := [.lit (.bool true)], args := [d1, d2] }
  | _ => none }
def placePgsRow : OpenClaim := { program := "ytgfjmkjgagogpaagreat", sum := "b553453c0d13bd917d95927b7507d6321c1d1950edab46fe695c713c662b5461", func := "mooring/mooringlaw18.PlacePgs", spec := "placePgs", unfollowed := true, recurses := true, apart := false }
def PlacePgsSaid : Prop := placePgsRow.holds Tryz.pinned (OpenSpec.ofChange placePgsSpec)

/-- ITS FALSE NEIGHBOUR: 'it returns false'. Refute it at one input. -/
def placePgsWrong : ChangeSpec := { name := "placePgs", fn := fun _ => fun
  | [d1, d2] => { results := [.lit (.bool false)], args := [d1, d2] }
  | _ => none }
def PlacePgsWrongFalsely : Prop := placePgsRow.holds Tryz.pinned (OpenSpec.ofChange placePgsWrong)

/-- 'mooringlaw18.PlaceActs': WHATEVER THE INPUT: true; the input reads as it did. -/
def placeActsSpec : ChangeSpec := { name := "placeActs", fn := fun _ => fun
  | [d1, d2] => { results := [.lit (.bool true)], args := [d1, d2] }
  | _ => none }
def placeActsRow : OpenClaim := { program := "ytgfjmkjgagogpaagreat", sum := "b553453c0d13bd917d95927b7507d6321c1d1950edab46fe695c713c662b5461", func := "mooring/mooringlaw18.PlaceActs", spec := "placeActs", unfollowed := true, recurses := true, apart := false }
def PlaceActsSaid : Prop := placeActsRow.holds Tryz.pinned (OpenSpec.ofChange placeActsSpec)

/-- ITS FALSE NEIGHBOUR: 'it returns false'. Refute it at one input. -/
def placeActsWrong : ChangeSpec := { name := "placeActs", fn := fun _ => fun
  | [d1, d2] => { results := [.lit (.bool false)], args := [d1, d2] }
  | _ => none }
def PlaceActsWrongFalsely : Prop := placeActsRow.holds Tryz.pinned (OpenSpec.ofChange placeActsWrong)

/-- 'mooringlaw18.PlaceKeeps': WHATEVER THE INPUT: true; the input reads as it did. -/
def placeKeepsSpec : ChangeSpec := { name := "placeKeeps", fn := fun _ => fun
  | [d1, d2] => { results := [.lit (.bool true)], args := [d1, d2] }
  | _ => none }
def placeKeepsRow : OpenClaim := { program := "ytgfjmkjgagogpaagreat", sum := "b553453c0d13bd917d95927b7507d6321c1d1950edab46fe695c713c662b5461", func := "mooring/mooringlaw18.PlaceKeeps", spec := "placeKeeps", unfollowed := true, recurses := true, apart := false }
def PlaceKeepsSaid : Prop := placeKeepsRow.holds Tryz.pinned (OpenSpec.ofChange placeKeepsSpec)

/-- ITS FALSE NEIGHBOUR: 'it returns false'. Refute it at one input. -/
def placeKeepsWrong : ChangeSpec := { name := "placeKeeps", fn := fun _ => fun
  | [d1, d2] => { results := [.lit (.bool false)], args := [d1, d2] }
  | _ => none }
def PlaceKeepsWrongFalsely : Prop := placeKeepsRow.holds Tryz.pinned (OpenSpec.ofChange placeKeepsWrong)

/-- 'mooringlaw18.PlaceDomains': WHATEVER THE INPUT: true; the input reads as it did. -/
def placeDomainsSpec : ChangeSpec := { name := "placeDomains", fn := fun _ => fun
  | [d1, d2] => { results := [.lit (.bool true)], args := [d1, d2] }
  | _ => none }
def placeDomainsRow : OpenClaim := { program := "ytgfjmkjgagogpaagreat", sum := "b553453c0d13bd917d95927b7507d6321c1d1950edab46fe695c713c662b5461", func := "mooring/mooringlaw18.PlaceDomains", spec := "placeDomains", unfollowed := true, recurses := true, apart := false }
def PlaceDomainsSaid : Prop := placeDomainsRow.holds Tryz.pinned (OpenSpec.ofChange placeDomainsSpec)

/-- ITS FALSE NEIGHBOUR: 'it returns false'. Refute it at one input. -/
def placeDomainsWrong : ChangeSpec := { name := "placeDomains", fn := fun _ => fun
  | [d1, d2] => { results := [.lit (.bool false)], args := [d1, d2] }
  | _ => none }
def PlaceDomainsWrongFalsely : Prop := placeDomainsRow.holds Tryz.pinned (OpenSpec.ofChange placeDomainsWrong)

/- THE SECOND FORM. 'bulk': how many values and letters a reading holds, each counted each time it is reached (what is shared counts as often as it is met; a slice's spare places count too). A statement '..UptoSaid' is the law's where the arguments, and the package variables that the reading takes, are together of bulk at most 1048576: NARROWER than '..Said'. Prove '..Said' where nothing that the law and all that it calls make is longer than what came in: it says more and counts as full. Else prove '..UptoSaid'. A law counts once. -/
mutual
def uptoBulk {H : Type} : DataW H → Nat
  | .lit (.string bytes) => bytes.length + 1
  | .lit _ => 1
  | .nil => 1
  | .ptr d => uptoBulk d + 1
  | .slice elems spare => uptoBulkAll elems + uptoBulkAll spare + 1
  | .agg parts => uptoBulkAll parts + 1
  | .iface _ d => uptoBulk d + 1
  | .map entries => uptoBulkEntries entries + 1
  | .held _ => 1
def uptoBulkAll {H : Type} : List (DataW H) → Nat
  | [] => 0
  | d :: r => uptoBulk d + uptoBulkAll r
def uptoBulkEntries {H : Type} : List (Lit × DataW H) → Nat
  | [] => 0
  | x :: r => uptoBulkEntry x + uptoBulkEntries r
def uptoBulkEntry {H : Type} : Lit × DataW H → Nat
  | (.string bytes, d) => bytes.length + uptoBulk d + 1
  | (_, d) => uptoBulk d + 1
 end
def uptoSmall : (H : Type) → List (DataW H) → Bool := fun _ ds => decide (uptoBulkAll ds ≤ 1048576)
def OpenSpec.upto (s : _root_.Go.ChangeSpec) : _root_.Go.OpenSpec := { _root_.Go.OpenSpec.ofChange s with cond := some uptoSmall }

/-- 'mooringlaw18.PlacePgs', WHERE WHAT IT READS IS OF BULK AT MOST 1048576: true; the input reads as it did. -/
def placePgsUptoRow : OpenClaim := { program := "ytgfjmkjgagogpaagreat", sum := "b553453c0d13bd917d95927b7507d6321c1d1950edab46fe695c713c662b5461", func := "mooring/mooringlaw18.PlacePgs", spec := "placePgs", unfollowed := true, recurses := true, apart := false, narrowed := true }
def PlacePgsUptoSaid : Prop := placePgsUptoRow.holds Tryz.pinned (OpenSpec.upto placePgsSpec)

/-- 'mooringlaw18.PlaceActs', WHERE WHAT IT READS IS OF BULK AT MOST 1048576: true; the input reads as it did. -/
def placeActsUptoRow : OpenClaim := { program := "ytgfjmkjgagogpaagreat", sum := "b553453c0d13bd917d95927b7507d6321c1d1950edab46fe695c713c662b5461", func := "mooring/mooringlaw18.PlaceActs", spec := "placeActs", unfollowed := true, recurses := true, apart := false, narrowed := true }
def PlaceActsUptoSaid : Prop := placeActsUptoRow.holds Tryz.pinned (OpenSpec.upto placeActsSpec)

/-- 'mooringlaw18.PlaceKeeps', WHERE WHAT IT READS IS OF BULK AT MOST 1048576: true; the input reads as it did. -/
def placeKeepsUptoRow : OpenClaim := { program := "ytgfjmkjgagogpaagreat", sum := "b553453c0d13bd917d95927b7507d6321c1d1950edab46fe695c713c662b5461", func := "mooring/mooringlaw18.PlaceKeeps", spec := "placeKeeps", unfollowed := true, recurses := true, apart := false, narrowed := true }
def PlaceKeepsUptoSaid : Prop := placeKeepsUptoRow.holds Tryz.pinned (OpenSpec.upto placeKeepsSpec)

/-- 'mooringlaw18.PlaceDomains', WHERE WHAT IT READS IS OF BULK AT MOST 1048576: true; the input reads as it did. -/
def placeDomainsUptoRow : OpenClaim := { program := "ytgfjmkjgagogpaagreat", sum := "b553453c0d13bd917d95927b7507d6321c1d1950edab46fe695c713c662b5461", func := "mooring/mooringlaw18.PlaceDomains", spec := "placeDomains", unfollowed := true, recurses := true, apart := false, narrowed := true }
def PlaceDomainsUptoSaid : Prop := placeDomainsUptoRow.holds Tryz.pinned (OpenSpec.upto placeDomainsSpec)

end Rows
end Go.Proofs.YtgfjmkjgagogpaaGreat
