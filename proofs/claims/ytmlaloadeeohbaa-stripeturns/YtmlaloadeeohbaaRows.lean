/-
  No cell of these rows narrows 'for every input' (looked for: loops, veiled, ifaces, maps, wideKeys, modest, calm, conditions, laid).
  DERIVED. THE GIVEN ROWS OF THIS SEAT. 5 by the template 'for every input the law returns true; each argument reads behind the call as it read before'; 0 by the template 'total and deterministic' (their statements: YtmlaloadeeohbaaTotals.lean).
  GIVEN WITH THE SEED: the statements are not yours to turn. If you find one false, say at which input.
  Laid BY PROGRAM, IN A SANDBOX (cutbox-rows.mjs): the forced cells as the released guide's own fill.sh prints them over the translation bb52f789a5bf5011… (all of the seat's roots in one cut). By AI agents, Wed Nov 11 2026. No macro, syntax, notation, axiom, sorry.
-/
import Derived.Test.YtmlaloadeeohbaaChecked
import GoSem.Claim
import GoSem.ClaimJoined
import GoSem.ClaimMapViews
import Derived.JoinedTies
import Derived.KernelRfl
namespace Go.Proofs.Ytmlaloadeeohbaa
/- THE CELL 'sum', in the pinned program and in every row, IS THE sha256 OF THE DUMP (.gsa) THAT YtmlaloadeeohbaaProg.lean LOADS. Nothing in Lean hashes anything: it is a label: what it is worth is what the hold of that sum in a sandbox is worth. -/
noncomputable def Try.pinned : Pinned := { name := "ytmlaloadeeohbaa", sum := "bb52f789a5bf501149d87706a03672124e6bf1e96b00f44aac608bd758c13688", checked := Try.checked }
namespace Rows
def none {H : Type} : Left H := { results := [], args := [] }

/-- 'mooringlaw20.StripeSplits': WHATEVER THE INPUT: true; the input reads as it did. -/
def stripeSplitsSpec : ChangeSpec := { name := "stripeSplits", fn := fun _ => fun
  | [d1, d2, d3] => { results := [.lit (.bool true)], args := [d1, d2, d3] }
  | _ => none }
def stripeSplitsRow : OpenClaim := { program := "ytmlaloadeeohbaa", sum := "bb52f789a5bf501149d87706a03672124e6bf1e96b00f44aac608bd758c13688", func := "mooring/mooringlaw20.StripeSplits", spec := "stripeSplits", apart := false }
def StripeSplitsSaid : Prop := stripeSplitsRow.holds Try.pinned (OpenSpec.ofChange stripeSplitsSpec)

/-- ITS FALSE NEIGHBOUR: 'it returns false'. Refute it at one input. -/
def stripeSplitsWrong : ChangeSpec := { name := "stripeSplits", fn := fun _ => fun
  | [d1, d2, d3] => { results := [.lit (.bool false)], args := [d1, d2, d3] }
  | _ => none }
def StripeSplitsWrongFalsely : Prop := stripeSplitsRow.holds Try.pinned (OpenSpec.ofChange stripeSplitsWrong)

/-- 'mooringlaw20.StripeJoins': WHATEVER THE INPUT: true; the input reads as it did. -/
def stripeJoinsSpec : ChangeSpec := { name := "stripeJoins", fn := fun _ => fun
  | [d] => { results := [.lit (.bool true)], args := [d] }
  | _ => none }
def stripeJoinsRow : OpenClaim := { program := "ytmlaloadeeohbaa", sum := "bb52f789a5bf501149d87706a03672124e6bf1e96b00f44aac608bd758c13688", func := "mooring/mooringlaw20.StripeJoins", spec := "stripeJoins", apart := false }
def StripeJoinsSaid : Prop := stripeJoinsRow.holds Try.pinned (OpenSpec.ofChange stripeJoinsSpec)

/-- ITS FALSE NEIGHBOUR: 'it returns false'. Refute it at one input. -/
def stripeJoinsWrong : ChangeSpec := { name := "stripeJoins", fn := fun _ => fun
  | [d] => { results := [.lit (.bool false)], args := [d] }
  | _ => none }
def StripeJoinsWrongFalsely : Prop := stripeJoinsRow.holds Try.pinned (OpenSpec.ofChange stripeJoinsWrong)

/-- 'mooringlaw20.StripeRefuses': WHATEVER THE INPUT: true; the input reads as it did. -/
def stripeRefusesSpec : ChangeSpec := { name := "stripeRefuses", fn := fun _ => fun
  | [d1, d2, d3] => { results := [.lit (.bool true)], args := [d1, d2, d3] }
  | _ => none }
def stripeRefusesRow : OpenClaim := { program := "ytmlaloadeeohbaa", sum := "bb52f789a5bf501149d87706a03672124e6bf1e96b00f44aac608bd758c13688", func := "mooring/mooringlaw20.StripeRefuses", spec := "stripeRefuses", apart := false }
def StripeRefusesSaid : Prop := stripeRefusesRow.holds Try.pinned (OpenSpec.ofChange stripeRefusesSpec)

/-- ITS FALSE NEIGHBOUR: 'it returns false'. Refute it at one input. -/
def stripeRefusesWrong : ChangeSpec := { name := "stripeRefuses", fn := fun _ => fun
  | [d1, d2, d3] => { results := [.lit (.bool false)], args := [d1, d2, d3] }
  | _ => none }
def StripeRefusesWrongFalsely : Prop := stripeRefusesRow.holds Try.pinned (OpenSpec.ofChange stripeRefusesWrong)

/-- 'mooringlaw20.StripeTouches': WHATEVER THE INPUT: true; the input reads as it did. -/
def stripeTouchesSpec : ChangeSpec := { name := "stripeTouches", fn := fun _ => fun
  | [d1, d2, d3] => { results := [.lit (.bool true)], args := [d1, d2, d3] }
  | _ => none }
def stripeTouchesRow : OpenClaim := { program := "ytmlaloadeeohbaa", sum := "bb52f789a5bf501149d87706a03672124e6bf1e96b00f44aac608bd758c13688", func := "mooring/mooringlaw20.StripeTouches", spec := "stripeTouches", apart := false }
def StripeTouchesSaid : Prop := stripeTouchesRow.holds Try.pinned (OpenSpec.ofChange stripeTouchesSpec)

/-- ITS FALSE NEIGHBOUR: 'it returns false'. Refute it at one input. -/
def stripeTouchesWrong : ChangeSpec := { name := "stripeTouches", fn := fun _ => fun
  | [d1, d2, d3] => { results := [.lit (.bool false)], args := [d1, d2, d3] }
  | _ => none }
def StripeTouchesWrongFalsely : Prop := stripeTouchesRow.holds Try.pinned (OpenSpec.ofChange stripeTouchesWrong)

/-- 'mooringlaw20.StripeTurns': WHATEVER THE INPUT: true; the input reads as it did. -/
def stripeTurnsSpec : ChangeSpec := { name := "stripeTurns", fn := fun _ => fun
  | [d1, d2, d3] => { results := [.lit (.bool true)], args := [d1, d2, d3] }
  | _ => none }
def stripeTurnsRow : OpenClaim := { program := "ytmlaloadeeohbaa", sum := "bb52f789a5bf501149d87706a03672124e6bf1e96b00f44aac608bd758c13688", func := "mooring/mooringlaw20.StripeTurns", spec := "stripeTurns", apart := false }
def StripeTurnsSaid : Prop := stripeTurnsRow.holds Try.pinned (OpenSpec.ofChange stripeTurnsSpec)

/-- ITS FALSE NEIGHBOUR: 'it returns false'. Refute it at one input. -/
def stripeTurnsWrong : ChangeSpec := { name := "stripeTurns", fn := fun _ => fun
  | [d1, d2, d3] => { results := [.lit (.bool false)], args := [d1, d2, d3] }
  | _ => none }
def StripeTurnsWrongFalsely : Prop := stripeTurnsRow.holds Try.pinned (OpenSpec.ofChange stripeTurnsWrong)

/- THE SECOND FORM. 'bulk': how many values and letters a reading holds, each counted each time it is reached (what is shared counts as often as it is met; a slice's spare places count too). A statement '..UptoSaid' is the law's where the arguments, and the package variables that the reading takes, are together of bulk at most 1048576: NARROWER than '..Said'. Prove '..Said' where nothing that the law and all that it calls make is longer than what came in: it says more and counts as full. Else prove '..UptoSaid'. A law counts once. -/
mutual
def uptoBulk {H : Type} : DataW H → Nat
  | .lit (.string bytes) => bytes.length + 1
  | .lit _ => 1
  | .nil => 1
  | .ptr d => uptoBulk d + 1
  | .slice elems spare => uptoBulkAll elems + uptoBulkAll spare + 1
  | .agg parts => uptoBulkAll parts + 1
  | .iface _ d => uptoBulk d + 1
  | .map entries => uptoBulkEntries entries + 1
  | .held _ => 1
def uptoBulkAll {H : Type} : List (DataW H) → Nat
  | [] => 0
  | d :: r => uptoBulk d + uptoBulkAll r
def uptoBulkEntries {H : Type} : List (Lit × DataW H) → Nat
  | [] => 0
  | x :: r => uptoBulkEntry x + uptoBulkEntries r
def uptoBulkEntry {H : Type} : Lit × DataW H → Nat
  | (.string bytes, d) => bytes.length + uptoBulk d + 1
  | (_, d) => uptoBulk d + 1
 end
def uptoSmall : (H : Type) → List (DataW H) → Bool := fun _ ds => decide (uptoBulkAll ds ≤ 1048576)
def OpenSpec.upto (s : _root_.Go.ChangeSpec) : _root_.Go.OpenSpec := { _root_.Go.OpenSpec.ofChange s with cond := some uptoSmall }

/-- 'mooringlaw20.StripeSplits', WHERE WHAT IT READS IS OF BULK AT MOST 1048576: true; the input reads as it did. -/
def stripeSplitsUptoRow : OpenClaim := { program := "ytmlaloadeeohbaa", sum := "bb52f789a5bf501149d87706a03672124e6bf1e96b00f44aac608bd758c13688", func := "mooring/mooringlaw20.StripeSplits", spec := "stripeSplits", apart := false, narrowed := true }
def StripeSplitsUptoSaid : Prop := stripeSplitsUptoRow.holds Try.pinned (OpenSpec.upto stripeSplitsSpec)

/-- 'mooringlaw20.StripeJoins', WHERE WHAT IT READS IS OF BULK AT MOST 1048576: true; the input reads as it did. -/
def stripeJoinsUptoRow : OpenClaim := { program := "ytmlaloadeeohbaa", sum := "bb52f789a5bf501149d87706a03672124e6bf1e96b00f44aac608bd758c13688", func := "mooring/mooringlaw20.StripeJoins", spec := "stripeJoins", apart := false, narrowed := true }
def StripeJoinsUptoSaid : Prop := stripeJoinsUptoRow.holds Try.pinned (OpenSpec.upto stripeJoinsSpec)

/-- 'mooringlaw20.StripeRefuses', WHERE WHAT IT READS IS OF BULK AT MOST 1048576: true; the input reads as it did. -/
def stripeRefusesUptoRow : OpenClaim := { program := "ytmlaloadeeohbaa", sum := "bb52f789a5bf501149d87706a03672124e6bf1e96b00f44aac608bd758c13688", func := "mooring/mooringlaw20.StripeRefuses", spec := "stripeRefuses", apart := false, narrowed := true }
def StripeRefusesUptoSaid : Prop := stripeRefusesUptoRow.holds Try.pinned (OpenSpec.upto stripeRefusesSpec)

/-- 'mooringlaw20.StripeTouches', WHERE WHAT IT READS IS OF BULK AT MOST 1048576: true; the input reads as it did. -/
def stripeTouchesUptoRow : OpenClaim := { program := "ytmlaloadeeohbaa", sum := "bb52f789a5bf501149d87706a03672124e6bf1e96b00f44aac608bd758c13688", func := "mooring/mooringlaw20.StripeTouches", spec := "stripeTouches", apart := false, narrowed := true }
def StripeTouchesUptoSaid : Prop := stripeTouchesUptoRow.holds Try.pinned (OpenSpec.upto stripeTouchesSpec)

/-- 'mooringlaw20.StripeTurns', WHERE WHAT IT READS IS OF BULK AT MOST 1048576: true; the input reads as it did. -/
def stripeTurnsUptoRow : OpenClaim := { program := "ytmlaloadeeohbaa", sum := "bb52f789a5bf501149d87706a03672124e6bf1e96b00f44aac608bd758c13688", func := "mooring/mooringlaw20.StripeTurns", spec := "stripeTurns", apart := false, narrowed := true }
def StripeTurnsUptoSaid : Prop := stripeTurnsUptoRow.holds Try.pinned (OpenSpec.upto stripeTurnsSpec)

end Rows
end Go.Proofs.Ytmlaloadeeohbaa
