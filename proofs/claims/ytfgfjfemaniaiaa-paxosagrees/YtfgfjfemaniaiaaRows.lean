/-
  No cell of these rows narrows 'for every input' (looked for: loops, veiled, ifaces, maps, wideKeys, modest, calm, conditions, laid).
  DERIVED. THE GIVEN ROWS OF THIS SEAT. 5 by the template 'for every input the law returns true; each argument reads behind the call as it read before'; 0 by the template 'total and deterministic' (their statements: YtfgfjfemaniaiaaTotals.lean).
  GIVEN WITH THE SEED: the statements are not yours to turn. If you find one false, say at which input.
  Laid BY PROGRAM, IN A SANDBOX (cutbox-rows.mjs): the forced cells as the released guide's own fill.sh prints them over the translation 742805ee0795a005… (all of the seat's roots in one cut). By AI agents, Wed Nov 11 2026. No macro, syntax, notation, axiom, sorry.
-/
import Derived.Test.YtfgfjfemaniaiaaChecked
import GoSem.Claim
import GoSem.ClaimJoined
import GoSem.ClaimMapViews
import Derived.JoinedTies
import Derived.KernelRfl
namespace Go.Proofs.Ytfgfjfemaniaiaa
/- THE CELL 'sum', in the pinned program and in every row, IS THE sha256 OF THE DUMP (.gsa) THAT YtfgfjfemaniaiaaProg.lean LOADS. Nothing in Lean hashes anything: it is a label: what it is worth is what the hold of that sum in a sandbox is worth. -/
noncomputable def Try.pinned : Pinned := { name := "ytfgfjfemaniaiaa", sum := "742805ee0795a0055061b355f8456eb80fdae3e235191de873f270035abfc6f4", checked := Try.checked }
namespace Rows
def none {H : Type} : Left H := { results := [], args := [] }

/-- 'mooringlaw12.PaxosAgrees': WHATEVER THE INPUT: true; the input reads as it did. -/
def paxosAgreesSpec : ChangeSpec := { name := "paxosAgrees", fn := fun _ => fun
  | [d1, d2] => { results := [.lit (.bool true)], args := [d1, d2] }
  | _ => none }
def paxosAgreesRow : OpenClaim := { program := "ytfgfjfemaniaiaa", sum := "742805ee0795a0055061b355f8456eb80fdae3e235191de873f270035abfc6f4", func := "mooring/mooringlaw12.PaxosAgrees", spec := "paxosAgrees", unfollowed := true, recurses := true, plainKeys := false, apart := false }
def PaxosAgreesSaid : Prop := paxosAgreesRow.holds Try.pinned (OpenSpec.ofChange paxosAgreesSpec)

/-- ITS FALSE NEIGHBOUR: 'it returns false'. Refute it at one input. -/
def paxosAgreesWrong : ChangeSpec := { name := "paxosAgrees", fn := fun _ => fun
  | [d1, d2] => { results := [.lit (.bool false)], args := [d1, d2] }
  | _ => none }
def PaxosAgreesWrongFalsely : Prop := paxosAgreesRow.holds Try.pinned (OpenSpec.ofChange paxosAgreesWrong)

/-- 'mooringlaw12.PaxosLives': WHATEVER THE INPUT: true; the input reads as it did. -/
def paxosLivesSpec : ChangeSpec := { name := "paxosLives", fn := fun _ => fun
  | [d1, d2] => { results := [.lit (.bool true)], args := [d1, d2] }
  | _ => none }
def paxosLivesRow : OpenClaim := { program := "ytfgfjfemaniaiaa", sum := "742805ee0795a0055061b355f8456eb80fdae3e235191de873f270035abfc6f4", func := "mooring/mooringlaw12.PaxosLives", spec := "paxosLives", unfollowed := true, recurses := true, plainKeys := false, apart := false }
def PaxosLivesSaid : Prop := paxosLivesRow.holds Try.pinned (OpenSpec.ofChange paxosLivesSpec)

/-- ITS FALSE NEIGHBOUR: 'it returns false'. Refute it at one input. -/
def paxosLivesWrong : ChangeSpec := { name := "paxosLives", fn := fun _ => fun
  | [d1, d2] => { results := [.lit (.bool false)], args := [d1, d2] }
  | _ => none }
def PaxosLivesWrongFalsely : Prop := paxosLivesRow.holds Try.pinned (OpenSpec.ofChange paxosLivesWrong)

/-- 'mooringlaw12.PaxosMany': WHATEVER THE INPUT: true; the input reads as it did. -/
def paxosManySpec : ChangeSpec := { name := "paxosMany", fn := fun _ => fun
  | [d1, d2] => { results := [.lit (.bool true)], args := [d1, d2] }
  | _ => none }
def paxosManyRow : OpenClaim := { program := "ytfgfjfemaniaiaa", sum := "742805ee0795a0055061b355f8456eb80fdae3e235191de873f270035abfc6f4", func := "mooring/mooringlaw12.PaxosMany", spec := "paxosMany", unfollowed := true, recurses := true, plainKeys := false, apart := false }
def PaxosManySaid : Prop := paxosManyRow.holds Try.pinned (OpenSpec.ofChange paxosManySpec)

/-- ITS FALSE NEIGHBOUR: 'it returns false'. Refute it at one input. -/
def paxosManyWrong : ChangeSpec := { name := "paxosMany", fn := fun _ => fun
  | [d1, d2] => { results := [.lit (.bool false)], args := [d1, d2] }
  | _ => none }
def PaxosManyWrongFalsely : Prop := paxosManyRow.holds Try.pinned (OpenSpec.ofChange paxosManyWrong)

/-- 'mooringlaw12.PaxosRefuses': WHATEVER THE INPUT: true; the input reads as it did. -/
def paxosRefusesSpec : ChangeSpec := { name := "paxosRefuses", fn := fun _ => fun
  | [d1, d2, d3] => { results := [.lit (.bool true)], args := [d1, d2, d3] }
  | _ => none }
def paxosRefusesRow : OpenClaim := { program := "ytfgfjfemaniaiaa", sum := "742805ee0795a0055061b355f8456eb80fdae3e235191de873f270035abfc6f4", func := "mooring/mooringlaw12.PaxosRefuses", spec := "paxosRefuses", unfollowed := true, recurses := true, plainKeys := false, apart := false }
def PaxosRefusesSaid : Prop := paxosRefusesRow.holds Try.pinned (OpenSpec.ofChange paxosRefusesSpec)

/-- ITS FALSE NEIGHBOUR: 'it returns false'. Refute it at one input. -/
def paxosRefusesWrong : ChangeSpec := { name := "paxosRefuses", fn := fun _ => fun
  | [d1, d2, d3] => { results := [.lit (.bool false)], args := [d1, d2, d3] }
  | _ => none }
def PaxosRefusesWrongFalsely : Prop := paxosRefusesRow.holds Try.pinned (OpenSpec.ofChange paxosRefusesWrong)

/-- 'mooringlaw12.PaxosNobody': WHATEVER THE INPUT: true; the input reads as it did. -/
def paxosNobodySpec : ChangeSpec := { name := "paxosNobody", fn := fun _ => fun
  | [d] => { results := [.lit (.bool true)], args := [d] }
  | _ => none }
def paxosNobodyRow : OpenClaim := { program := "ytfgfjfemaniaiaa", sum := "742805ee0795a0055061b355f8456eb80fdae3e235191de873f270035abfc6f4", func := "mooring/mooringlaw12.PaxosNobody", spec := "paxosNobody", unfollowed := true, recurses := true, plainKeys := false, apart := false }
def PaxosNobodySaid : Prop := paxosNobodyRow.holds Try.pinned (OpenSpec.ofChange paxosNobodySpec)

/-- ITS FALSE NEIGHBOUR: 'it returns false'. Refute it at one input. -/
def paxosNobodyWrong : ChangeSpec := { name := "paxosNobody", fn := fun _ => fun
  | [d] => { results := [.lit (.bool false)], args := [d] }
  | _ => none }
def PaxosNobodyWrongFalsely : Prop := paxosNobodyRow.holds Try.pinned (OpenSpec.ofChange paxosNobodyWrong)

/- THE SECOND FORM. 'bulk': how many values and letters a reading holds, each counted each time it is reached (what is shared counts as often as it is met; a slice's spare places count too). A statement '..UptoSaid' is the law's where the arguments, and the package variables that the reading takes, are together of bulk at most 1048576: NARROWER than '..Said'. Prove '..Said' where nothing that the law and all that it calls make is longer than what came in: it says more and counts as full. Else prove '..UptoSaid'. A law counts once. -/
mutual
def uptoBulk {H : Type} : DataW H → Nat
  | .lit (.string bytes) => bytes.length + 1
  | .lit _ => 1
  | .nil => 1
  | .ptr d => uptoBulk d + 1
  | .slice elems spare => uptoBulkAll elems + uptoBulkAll spare + 1
  | .agg parts => uptoBulkAll parts + 1
  | .iface _ d => uptoBulk d + 1
  | .map entries => uptoBulkEntries entries + 1
  | .held _ => 1
def uptoBulkAll {H : Type} : List (DataW H) → Nat
  | [] => 0
  | d :: r => uptoBulk d + uptoBulkAll r
def uptoBulkEntries {H : Type} : List (Lit × DataW H) → Nat
  | [] => 0
  | x :: r => uptoBulkEntry x + uptoBulkEntries r
def uptoBulkEntry {H : Type} : Lit × DataW H → Nat
  | (.string bytes, d) => bytes.length + uptoBulk d + 1
  | (_, d) => uptoBulk d + 1
 end
def uptoSmall : (H : Type) → List (DataW H) → Bool := fun _ ds => decide (uptoBulkAll ds ≤ 1048576)
def OpenSpec.upto (s : _root_.Go.ChangeSpec) : _root_.Go.OpenSpec := { _root_.Go.OpenSpec.ofChange s with cond := some uptoSmall }

/-- 'mooringlaw12.PaxosAgrees', WHERE WHAT IT READS IS OF BULK AT MOST 1048576: true; the input reads as it did. -/
def paxosAgreesUptoRow : OpenClaim := { program := "ytfgfjfemaniaiaa", sum := "742805ee0795a0055061b355f8456eb80fdae3e235191de873f270035abfc6f4", func := "mooring/mooringlaw12.PaxosAgrees", spec := "paxosAgrees", unfollowed := true, recurses := true, plainKeys := false, apart := false, narrowed := true }
def PaxosAgreesUptoSaid : Prop := paxosAgreesUptoRow.holds Try.pinned (OpenSpec.upto paxosAgreesSpec)

/-- 'mooringlaw12.PaxosLives', WHERE WHAT IT READS IS OF BULK AT MOST 1048576: true; the input reads as it did. -/
def paxosLivesUptoRow : OpenClaim := { program := "ytfgfjfemaniaiaa", sum := "742805ee0795a0055061b355f8456eb80fdae3e235191de873f270035abfc6f4", func := "mooring/mooringlaw12.PaxosLives", spec := "paxosLives", unfollowed := true, recurses := true, plainKeys := false, apart := false, narrowed := true }
def PaxosLivesUptoSaid : Prop := paxosLivesUptoRow.holds Try.pinned (OpenSpec.upto paxosLivesSpec)

/-- 'mooringlaw12.PaxosMany', WHERE WHAT IT READS IS OF BULK AT MOST 1048576: true; the input reads as it did. -/
def paxosManyUptoRow : OpenClaim := { program := "ytfgfjfemaniaiaa", sum := "742805ee0795a0055061b355f8456eb80fdae3e235191de873f270035abfc6f4", func := "mooring/mooringlaw12.PaxosMany", spec := "paxosMany", unfollowed := true, recurses := true, plainKeys := false, apart := false, narrowed := true }
def PaxosManyUptoSaid : Prop := paxosManyUptoRow.holds Try.pinned (OpenSpec.upto paxosManySpec)

/-- 'mooringlaw12.PaxosRefuses', WHERE WHAT IT READS IS OF BULK AT MOST 1048576: true; the input reads as it did. -/
def paxosRefusesUptoRow : OpenClaim := { program := "ytfgfjfemaniaiaa", sum := "742805ee0795a0055061b355f8456eb80fdae3e235191de873f270035abfc6f4", func := "mooring/mooringlaw12.PaxosRefuses", spec := "paxosRefuses", unfollowed := true, recurses := true, plainKeys := false, apart := false, narrowed := true }
def PaxosRefusesUptoSaid : Prop := paxosRefusesUptoRow.holds Try.pinned (OpenSpec.upto paxosRefusesSpec)

/-- 'mooringlaw12.PaxosNobody', WHERE WHAT IT READS IS OF BULK AT MOST 1048576: true; the input reads as it did. -/
def paxosNobodyUptoRow : OpenClaim := { program := "ytfgfjfemaniaiaa", sum := "742805ee0795a0055061b355f8456eb80fdae3e235191de873f270035abfc6f4", func := "mooring/mooringlaw12.PaxosNobody", spec := "paxosNobody", unfollowed := true, recurses := true, plainKeys := false, apart := false, narrowed := true }
def PaxosNobodyUptoSaid : Prop := paxosNobodyUptoRow.holds Try.pinned (OpenSpec.upto paxosNobodySpec)

end Rows
end Go.Proofs.Ytfgfjfemaniaiaa
