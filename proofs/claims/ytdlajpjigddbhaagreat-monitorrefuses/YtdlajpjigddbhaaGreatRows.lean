/-
  No cell of these rows narrows 'for every input' (looked for: loops, veiled, ifaces, maps, wideKeys, modest, calm, conditions, laid).
  DERIVED. THE GIVEN ROWS OF THIS SEAT. 4 by the template 'for every input the law returns true; each argument reads behind the call as it read before'; 0 by the template 'total and deterministic' (their statements: YtdlajpjigddbhaaGreatTotals.lean).
  GIVEN WITH THE SEED: the statements are not yours to turn. If you find one false, say at which input.
  Laid BY PROGRAM, IN A SANDBOX (cutbox-rows.mjs): the forced cells as the released guide's own fill.sh prints them over the translation fbbc8710cb4de6a7… (all of the seat's roots in one cut). By AI agents, Wed Nov 11 2026. No macro, syntax, notation, axiom, sorry.
-/
import Derived.Test.YtdlajpjigddbhaaGreatChecked
import GoSem.Claim
import GoSem.ClaimJoined
import GoSem.ClaimMapViews
import Derived.JoinedTies
import Derived.KernelRfl
namespace Go.Proofs.YtdlajpjigddbhaaGreat
/- THE CELL 'sum', in the pinned program and in every row, IS THE sha256 OF THE DUMP (.gsa) THAT YtdlajpjigddbhaaGreatProg.lean LOADS. Nothing in Lean hashes anything: it is a label: what it is worth is what the hold of that sum in a sandbox is worth. -/
noncomputable def Tryz.pinned : Pinned := { name := "ytdlajpjigddbhaagreat", sum := "fbbc8710cb4de6a749afd692904fd185b56e54e5ef3998067ae112649de60c6a", checked := Tryz.checked }
namespace Rows
def none {H : Type} : Left H := { results := [], args := [] }

/-- 'mooringlaw14.MonitorAgrees': WHATEVER THE INPUT: true; the input reads as it did. -/
def monitorAgreesSpec : ChangeSpec := { name := "monitorAgrees", fn := fun _ => fun
  | [d1, d2] => { results := [.lit (.bool true)], args := [d1, d2] }
  | _ => none }
def monitorAgreesRow : OpenClaim := { program := "ytdlajpjigddbhaagreat", sum := "fbbc8710cb4de6a749afd692904fd185b56e54e5ef3998067ae112649de60c6a", func := "mooring/mooringlaw14.MonitorAgrees", spec := "monitorAgrees", inPlace := ["slices.overlaps[mooring/api.Osd]"], unfollowed := true, recurses := true, plainKeys := false, apart := false }
def MonitorAgreesSaid : Prop := monitorAgreesRow.holds Tryz.pinned (OpenSpec.ofChange monitorAgreesSpec)

/-- ITS FALSE NEIGHBOUR: 'it returns false'. Refute it at one input. -/
def monitorAgreesWrong : ChangeSpec := { name := "monitorAgrees", fn := fun _ => fun
  | [d1, d2] => { results := [.lit (.bool false)], args := [d1, d2] }
  | _ => none }
def MonitorAgreesWrongFalsely : Prop := monitorAgreesRow.holds Tryz.pinned (OpenSpec.ofChange monitorAgreesWrong)

/-- 'mooringlaw14.MonitorLives': WHATEVER THE INPUT: true; the input reads as it did. -/
def monitorLivesSpec : ChangeSpec := { name := "monitorLives", fn := fun _ => fun
  | [d1, d2] => { results := [.lit (.bool true)], args := [d1, d2] }
  | _ => none }
def monitorLivesRow : OpenClaim := { program := "ytdlajpjigddbhaagreat", sum := "fbbc8710cb4de6a749afd692904fd185b56e54e5ef3998067ae112649de60c6a", func := "mooring/mooringlaw14.MonitorLives", spec := "monitorLives", inPlace := ["slices.overlaps[mooring/api.Osd]"], unfollowed := true, recurses := true, plainKeys := false, apart := false }
def MonitorLivesSaid : Prop := monitorLivesRow.holds Tryz.pinned (OpenSpec.ofChange monitorLivesSpec)

/-- ITS FALSE NEIGHBOUR: 'it returns false'. Refute it at one input. -/
def monitorLivesWrong : ChangeSpec := { name := "monitorLives", fn := fun _ => fun
  | [d1, d2] => { results := [.lit (.bool false)], args := [d1, d2] }
  | _ => none }
def MonitorLivesWrongFalsely : Prop := monitorLivesRow.holds Tryz.pinned (OpenSpec.ofChange monitorLivesWrong)

/-- 'mooringlaw14.MonitorRefuses': WHATEVER THE INPUT: true; the input reads as it did. -/
def monitorRefusesSpec : ChangeSpec := { name := "monitorRefuses", fn := fun _ => fun
  | [d1, d2, d3] => { results := [.lit (.bool true)], args := [d1, d2, d3] }
  | _ => none }
def monitorRefusesRow : OpenClaim := { program := "ytdlajpjigddbhaagreat", sum := "fbbc8710cb4de6a749afd692904fd185b56e54e5ef3998067ae112649de60c6a", func := "mooring/mooringlaw14.MonitorRefuses", spec := "monitorRefuses", inPlace := ["slices.overlaps[mooring/api.Osd]"], unfollowed := true, recurses := true, plainKeys := false, apart := false }
def MonitorRefusesSaid : Prop := monitorRefusesRow.holds Tryz.pinned (OpenSpec.ofChange monitorRefusesSpec)

/-- ITS FALSE NEIGHBOUR: 'it returns false'. Refute it at one input. -/
def monitorRefusesWrong : ChangeSpec := { name := "monitorRefuses", fn := fun _ => fun
  | [d1, d2, d3] => { results := [.lit (.bool false)], args := [d1, d2, d3] }
  | _ => none }
def MonitorRefusesWrongFalsely : Prop := monitorRefusesRow.holds Tryz.pinned (OpenSpec.ofChange monitorRefusesWrong)

/-- 'mooringlaw14.MonitorNobody': WHATEVER THE INPUT: true; the input reads as it did. -/
def monitorNobodySpec : ChangeSpec := { name := "monitorNobody", fn := fun _ => fun
  | [d] => { results := [.lit (.bool true)], args := [d] }
  | _ => none }
def monitorNobodyRow : OpenClaim := { program := "ytdlajpjigddbhaagreat", sum := "fbbc8710cb4de6a749afd692904fd185b56e54e5ef3998067ae112649de60c6a", func := "mooring/mooringlaw14.MonitorNobody", spec := "monitorNobody", inPlace := ["slices.overlaps[mooring/api.Osd]"], unfollowed := true, recurses := true, plainKeys := false, apart := false }
def MonitorNobodySaid : Prop := monitorNobodyRow.holds Tryz.pinned (OpenSpec.ofChange monitorNobodySpec)

/-- ITS FALSE NEIGHBOUR: 'it returns false'. Refute it at one input. -/
def monitorNobodyWrong : ChangeSpec := { name := "monitorNobody", fn := fun _ => fun
  | [d] => { results := [.lit (.bool false)], args := [d] }
  | _ => none }
def MonitorNobodyWrongFalsely : Prop := monitorNobodyRow.holds Tryz.pinned (OpenSpec.ofChange monitorNobodyWrong)

/- THE SECOND FORM. 'bulk': how many values and letters a reading holds, each counted each time it is reached (what is shared counts as often as it is met; a slice's spare places count too). A statement '..UptoSaid' is the law's where the arguments, and the package variables that the reading takes, are together of bulk at most 1048576: NARROWER than '..Said'. Prove '..Said' where nothing that the law and all that it calls make is longer than what came in: it says more and counts as full. Else prove '..UptoSaid'. A law counts once. -/
mutual
def uptoBulk {H : Type} : DataW H → Nat
  | .lit (.string bytes) => bytes.length + 1
  | .lit _ => 1
  | .nil => 1
  | .ptr d => uptoBulk d + 1
  | .slice elems spare => uptoBulkAll elems + uptoBulkAll spare + 1
  | .agg parts => uptoBulkAll parts + 1
  | .iface _ d => uptoBulk d + 1
  | .map entries => uptoBulkEntries entries + 1
  | .held _ => 1
def uptoBulkAll {H : Type} : List (DataW H) → Nat
  | [] => 0
  | d :: r => uptoBulk d + uptoBulkAll r
def uptoBulkEntries {H : Type} : List (Lit × DataW H) → Nat
  | [] => 0
  | x :: r => uptoBulkEntry x + uptoBulkEntries r
def uptoBulkEntry {H : Type} : Lit × DataW H → Nat
  | (.string bytes, d) => bytes.length + uptoBulk d + 1
  | (_, d) => uptoBulk d + 1
 end
def uptoSmall : (H : Type) → List (DataW H) → Bool := fun _ ds => decide (uptoBulkAll ds ≤ 1048576)
def OpenSpec.upto (s : _root_.Go.ChangeSpec) : _root_.Go.OpenSpec := { _root_.Go.OpenSpec.ofChange s with cond := some uptoSmall }

/-- 'mooringlaw14.MonitorAgrees', WHERE WHAT IT READS IS OF BULK AT MOST 1048576: true; the input reads as it did. -/
def monitorAgreesUptoRow : OpenClaim := { program := "ytdlajpjigddbhaagreat", sum := "fbbc8710cb4de6a749afd692904fd185b56e54e5ef3998067ae112649de60c6a", func := "mooring/mooringlaw14.MonitorAgrees", spec := "monitorAgrees", inPlace := ["slices.overlaps[mooring/api.Osd]"], unfollowed := true, recurses := true, plainKeys := false, apart := false, narrowed := true }
def MonitorAgreesUptoSaid : Prop := monitorAgreesUptoRow.holds Tryz.pinned (OpenSpec.upto monitorAgreesSpec)

/-- 'mooringlaw14.MonitorLives', WHERE WHAT IT READS IS OF BULK AT MOST 1048576: true; the input reads as it did. -/
def monitorLivesUptoRow : OpenClaim := { program := "ytdlajpjigddbhaagreat", sum := "fbbc8710cb4de6a749afd692904fd185b56e54e5ef3998067ae112649de60c6a", func := "mooring/mooringlaw14.MonitorLives", spec := "monitorLives", inPlace := ["slices.overlaps[mooring/api.Osd]"], unfollowed := true, recurses := true, plainKeys := false, apart := false, narrowed := true }
def MonitorLivesUptoSaid : Prop := monitorLivesUptoRow.holds Tryz.pinned (OpenSpec.upto monitorLivesSpec)

/-- 'mooringlaw14.MonitorRefuses', WHERE WHAT IT READS IS OF BULK AT MOST 1048576: true; the input reads as it did. -/
def monitorRefusesUptoRow : OpenClaim := { program := "ytdlajpjigddbhaagreat", sum := "fbbc8710cb4de6a749afd692904fd185b56e54e5ef3998067ae112649de60c6a", func := "mooring/mooringlaw14.MonitorRefuses", spec := "monitorRefuses", inPlace := ["slices.overlaps[mooring/api.Osd]"], unfollowed := true, recurses := true, plainKeys := false, apart := false, narrowed := true }
def MonitorRefusesUptoSaid : Prop := monitorRefusesUptoRow.holds Tryz.pinned (OpenSpec.upto monitorRefusesSpec)

/-- 'mooringlaw14.MonitorNobody', WHERE WHAT IT READS IS OF BULK AT MOST 1048576: true; the input reads as it did. -/
def monitorNobodyUptoRow : OpenClaim := { program := "ytdlajpjigddbhaagreat", sum := "fbbc8710cb4de6a749afd692904fd185b56e54e5ef3998067ae112649de60c6a", func := "mooring/mooringlaw14.MonitorNobody", spec := "monitorNobody", inPlace := ["slices.overlaps[mooring/api.Osd]"], unfollowed := true, recurses := true, plainKeys := false, apart := false, narrowed := true }
def MonitorNobodyUptoSaid : Prop := monitorNobodyUptoRow.holds Tryz.pinned (OpenSpec.upto monitorNobodySpec)

end Rows
end Go.Proofs.YtdlajpjigddbhaaGreat
