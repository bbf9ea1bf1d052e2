/-
  No cell of these rows narrows 'for every input' (looked for: loops, veiled, ifaces, maps, wideKeys, modest, calm, conditions, laid).
  DERIVED. THE GIVEN ROWS OF THIS SEAT. 11 by the template 'for every input the law returns true; each argument reads behind the call as it read before'; 0 by the template 'total and deterministic' (their statements: YtapbcpilklhoiaaTotals.lean).
  GIVEN WITH THE SEED: the statements are not yours to turn. If you find one false, say at which input.
  Laid BY PROGRAM, IN A SANDBOX (cutbox-rows.mjs): the forced cells as the released guide's own fill.sh prints them over the translation c2a6f65c54f6c294… (all of the seat's roots in one cut). By AI agents, Wed Nov 11 2026. No macro, syntax, notation, axiom, sorry.
-/
import Derived.Test.YtapbcpilklhoiaaChecked
import GoSem.Claim
import GoSem.ClaimJoined
import GoSem.ClaimMapViews
import Derived.JoinedTies
import Derived.KernelRfl
namespace Go.Proofs.Ytapbcpilklhoiaa
/- THE CELL 'sum', in the pinned program and in every row, IS THE sha256 OF THE DUMP (.gsa) THAT YtapbcpilklhoiaaProg.lean LOADS. Nothing in Lean hashes anything: it is a label: what it is worth is what the hold of that sum in a sandbox is worth. -/
noncomputable def Try.pinned : Pinned := { name := "ytapbcpilklhoiaa", sum := "c2a6f65c54f6c2946ce883cce4f2eca6c5474d55cdf2c72b416674c3c0f992c1", checked := Try.checked }
namespace Rows
def none {H : Type} : Left H := { results := [], args := [] }

/-- 'synodlaw05.BallotOrder': WHATEVER THE INPUT: true; the input reads as it did. -/
def ballotOrderSpec : ChangeSpec := { name := "ballotOrder", fn := fun _ => fun
  | [d1, d2] => { results := [.lit (.bool true)], args := [d1, d2] }
  | _ => none }
def ballotOrderRow : OpenClaim := { program := "ytapbcpilklhoiaa", sum := "c2a6f65c54f6c2946ce883cce4f2eca6c5474d55cdf2c72b416674c3c0f992c1", func := "synod/synodlaw05.BallotOrder", spec := "ballotOrder", apart := false }
def BallotOrderSaid : Prop := ballotOrderRow.holds Try.pinned (OpenSpec.ofChange ballotOrderSpec)

/-- ITS FALSE NEIGHBOUR: 'it returns false'. Refute it at one input. -/
def ballotOrderWrong : ChangeSpec := { name := "ballotOrder", fn := fun _ => fun
  | [d1, d2] => { results := [.lit (.bool false)], args := [d1, d2] }
  | _ => none }
def BallotOrderWrongFalsely : Prop := ballotOrderRow.holds Try.pinned (OpenSpec.ofChange ballotOrderWrong)

/-- 'synodlaw05.BallotSets': WHATEVER THE INPUT: true; the input reads as it did. -/
def ballotSetsSpec : ChangeSpec := { name := "ballotSets", fn := fun _ => fun
  | [d1, d2, d3, d4] => { results := [.lit (.bool true)], args := [d1, d2, d3, d4] }
  | _ => none }
def ballotSetsRow : OpenClaim := { program := "ytapbcpilklhoiaa", sum := "c2a6f65c54f6c2946ce883cce4f2eca6c5474d55cdf2c72b416674c3c0f992c1", func := "synod/synodlaw05.BallotSets", spec := "ballotSets", apart := false }
def BallotSetsSaid : Prop := ballotSetsRow.holds Try.pinned (OpenSpec.ofChange ballotSetsSpec)

/-- ITS FALSE NEIGHBOUR: 'it returns false'. Refute it at one input. -/
def ballotSetsWrong : ChangeSpec := { name := "ballotSets", fn := fun _ => fun
  | [d1, d2, d3, d4] => { results := [.lit (.bool false)], args := [d1, d2, d3, d4] }
  | _ => none }
def BallotSetsWrongFalsely : Prop := ballotSetsRow.holds Try.pinned (OpenSpec.ofChange ballotSetsWrong)

/-- 'synodlaw05.BallotMeets': WHATEVER THE INPUT: true; the input reads as it did. -/
def ballotMeetsSpec : ChangeSpec := { name := "ballotMeets", fn := fun _ => fun
  | [d1, d2, d3] => { results := [.lit (.bool true)], args := [d1, d2, d3] }
  | _ => none }
def ballotMeetsRow : OpenClaim := { program := "ytapbcpilklhoiaa", sum := "c2a6f65c54f6c2946ce883cce4f2eca6c5474d55cdf2c72b416674c3c0f992c1", func := "synod/synodlaw05.BallotMeets", spec := "ballotMeets", apart := false }
def BallotMeetsSaid : Prop := ballotMeetsRow.holds Try.pinned (OpenSpec.ofChange ballotMeetsSpec)

/-- ITS FALSE NEIGHBOUR: 'it returns false'. Refute it at one input. -/
def ballotMeetsWrong : ChangeSpec := { name := "ballotMeets", fn := fun _ => fun
  | [d1, d2, d3] => { results := [.lit (.bool false)], args := [d1, d2, d3] }
  | _ => none }
def BallotMeetsWrongFalsely : Prop := ballotMeetsRow.holds Try.pinned (OpenSpec.ofChange ballotMeetsWrong)

/-- 'synodlaw05.BallotTurns': WHATEVER THE INPUT: true; the input reads as it did. -/
def ballotTurnsSpec : ChangeSpec := { name := "ballotTurns", fn := fun _ => fun
  | [d1, d2, d3] => { results := [.lit (.bool true)], args := [d1, d2, d3] }
  | _ => none }
def ballotTurnsRow : OpenClaim := { program := "ytapbcpilklhoiaa", sum := "c2a6f65c54f6c2946ce883cce4f2eca6c5474d55cdf2c72b416674c3c0f992c1", func := "synod/synodlaw05.BallotTurns", spec := "ballotTurns", apart := false }
def BallotTurnsSaid : Prop := ballotTurnsRow.holds Try.pinned (OpenSpec.ofChange ballotTurnsSpec)

/-- ITS FALSE NEIGHBOUR: 'it returns false'. Refute it at one input. -/
def ballotTurnsWrong : ChangeSpec := { name := "ballotTurns", fn := fun _ => fun
  | [d1, d2, d3] => { results := [.lit (.bool false)], args := [d1, d2, d3] }
  | _ => none }
def BallotTurnsWrongFalsely : Prop := ballotTurnsRow.holds Try.pinned (OpenSpec.ofChange ballotTurnsWrong)

/-- 'synodlaw05.BallotShares': WHATEVER THE INPUT: true; the input reads as it did. -/
def ballotSharesSpec : ChangeSpec := { name := "ballotShares", fn := fun _ => fun
  | [d1, d2] => { results := [.lit (.bool true)], args := [d1, d2] }
  | _ => none }
def ballotSharesRow : OpenClaim := { program := "ytapbcpilklhoiaa", sum := "c2a6f65c54f6c2946ce883cce4f2eca6c5474d55cdf2c72b416674c3c0f992c1", func := "synod/synodlaw05.BallotShares", spec := "ballotShares", apart := false }
def BallotSharesSaid : Prop := ballotSharesRow.holds Try.pinned (OpenSpec.ofChange ballotSharesSpec)

/-- ITS FALSE NEIGHBOUR: 'it returns false'. Refute it at one input. -/
def ballotSharesWrong : ChangeSpec := { name := "ballotShares", fn := fun _ => fun
  | [d1, d2] => { results := [.lit (.bool false)], args := [d1, d2] }
  | _ => none }
def BallotSharesWrongFalsely : Prop := ballotSharesRow.holds Try.pinned (OpenSpec.ofChange ballotSharesWrong)

/-- 'synodlaw06.ValueChecks': WHATEVER THE INPUT: true; the input reads as it did. -/
def valueChecksSpec : ChangeSpec := { name := "valueChecks", fn := fun _ => fun
  | [d1, d2] => { results := [.lit (.bool true)], args := [d1, d2] }
  | _ => none }
def valueChecksRow : OpenClaim := { program := "ytapbcpilklhoiaa", sum := "c2a6f65c54f6c2946ce883cce4f2eca6c5474d55cdf2c72b416674c3c0f992c1", func := "synod/synodlaw06.ValueChecks", spec := "valueChecks", apart := false }
def ValueChecksSaid : Prop := valueChecksRow.holds Try.pinned (OpenSpec.ofChange valueChecksSpec)

/-- ITS FALSE NEIGHBOUR: 'it returns false'. Refute it at one input. -/
def valueChecksWrong : ChangeSpec := { name := "valueChecks", fn := fun _ => fun
  | [d1, d2] => { results := [.lit (.bool false)], args := [d1, d2] }
  | _ => none }
def ValueChecksWrongFalsely : Prop := valueChecksRow.holds Try.pinned (OpenSpec.ofChange valueChecksWrong)

/-- 'synodlaw06.ValueCodes': WHATEVER THE INPUT: true; the input reads as it did. -/
def valueCodesSpec : ChangeSpec := { name := "valueCodes", fn := fun _ => fun
  | [d1, d2] => { results := [.lit (.bool true)], args := [d1, d2] }
  | _ => none }
def valueCodesRow : OpenClaim := { program := "ytapbcpilklhoiaa", sum := "c2a6f65c54f6c2946ce883cce4f2eca6c5474d55cdf2c72b416674c3c0f992c1", func := "synod/synodlaw06.ValueCodes", spec := "valueCodes", apart := false }
def ValueCodesSaid : Prop := valueCodesRow.holds Try.pinned (OpenSpec.ofChange valueCodesSpec)

/-- ITS FALSE NEIGHBOUR: 'it returns false'. Refute it at one input. -/
def valueCodesWrong : ChangeSpec := { name := "valueCodes", fn := fun _ => fun
  | [d1, d2] => { results := [.lit (.bool false)], args := [d1, d2] }
  | _ => none }
def ValueCodesWrongFalsely : Prop := valueCodesRow.holds Try.pinned (OpenSpec.ofChange valueCodesWrong)

/-- 'synodlaw06.ValueBack': WHATEVER THE INPUT: true; the input reads as it did. -/
def valueBackSpec : ChangeSpec := { name := "valueBack", fn := fun _ => fun
  | [d1, d2] => { results := [.lit (.bool true)], args := [d1, d2] }
  | _ => none }
def valueBackRow : OpenClaim := { program := "ytapbcpilklhoiaa", sum := "c2a6f65c54f6c2946ce883cce4f2eca6c5474d55cdf2c72b416674c3c0f992c1", func := "synod/synodlaw06.ValueBack", spec := "valueBack", apart := false }
def ValueBackSaid : Prop := valueBackRow.holds Try.pinned (OpenSpec.ofChange valueBackSpec)

/-- ITS FALSE NEIGHBOUR: 'it returns false'. Refute it at one input. -/
def valueBackWrong : ChangeSpec := { name := "valueBack", fn := fun _ => fun
  | [d1, d2] => { results := [.lit (.bool false)], args := [d1, d2] }
  | _ => none }
def ValueBackWrongFalsely : Prop := valueBackRow.holds Try.pinned (OpenSpec.ofChange valueBackWrong)

/-- 'synodlaw06.ValueSame': WHATEVER THE INPUT: true; the input reads as it did. -/
def valueSameSpec : ChangeSpec := { name := "valueSame", fn := fun _ => fun
  | [d1, d2] => { results := [.lit (.bool true)], args := [d1, d2] }
  | _ => none }
def valueSameRow : OpenClaim := { program := "ytapbcpilklhoiaa", sum := "c2a6f65c54f6c2946ce883cce4f2eca6c5474d55cdf2c72b416674c3c0f992c1", func := "synod/synodlaw06.ValueSame", spec := "valueSame", apart := false }
def ValueSameSaid : Prop := valueSameRow.holds Try.pinned (OpenSpec.ofChange valueSameSpec)

/-- ITS FALSE NEIGHBOUR: 'it returns false'. Refute it at one input. -/
def valueSameWrong : ChangeSpec := { name := "valueSame", fn := fun _ => fun
  | [d1, d2] => { results := [.lit (.bool false)], args := [d1, d2] }
  | _ => none }
def ValueSameWrongFalsely : Prop := valueSameRow.holds Try.pinned (OpenSpec.ofChange valueSameWrong)

/-- 'synodlaw06.ValueStream': WHATEVER THE INPUT: true; the input reads as it did. -/
def valueStreamSpec : ChangeSpec := { name := "valueStream", fn := fun _ => fun
  | [d1, d2] => { results := [.lit (.bool true)], args := [d1, d2] }
  | _ => none }
def valueStreamRow : OpenClaim := { program := "ytapbcpilklhoiaa", sum := "c2a6f65c54f6c2946ce883cce4f2eca6c5474d55cdf2c72b416674c3c0f992c1", func := "synod/synodlaw06.ValueStream", spec := "valueStream", apart := false }
def ValueStreamSaid : Prop := valueStreamRow.holds Try.pinned (OpenSpec.ofChange valueStreamSpec)

/-- ITS FALSE NEIGHBOUR: 'it returns false'. Refute it at one input. -/
def valueStreamWrong : ChangeSpec := { name := "valueStream", fn := fun _ => fun
  | [d1, d2] => { results := [.lit (.bool false)], args := [d1, d2] }
  | _ => none }
def ValueStreamWrongFalsely : Prop := valueStreamRow.holds Try.pinned (OpenSpec.ofChange valueStreamWrong)

/-- 'synodlaw06.ValueUnlike': WHATEVER THE INPUT: true; the input reads as it did. -/
def valueUnlikeSpec : ChangeSpec := { name := "valueUnlike", fn := fun _ => fun
  | [d1, d2] => { results := [.lit (.bool true)], args := [d1, d2] }
  | _ => none }
def valueUnlikeRow : OpenClaim := { program := "ytapbcpilklhoiaa", sum := "c2a6f65c54f6c2946ce883cce4f2eca6c5474d55cdf2c72b416674c3c0f992c1", func := "synod/synodlaw06.ValueUnlike", spec := "valueUnlike", apart := false }
def ValueUnlikeSaid : Prop := valueUnlikeRow.holds Try.pinned (OpenSpec.ofChange valueUnlikeSpec)

/-- ITS FALSE NEIGHBOUR: 'it returns false'. Refute it at one input. -/
def valueUnlikeWrong : ChangeSpec := { name := "valueUnlike", fn := fun _ => fun
  | [d1, d2] => { results := [.lit (.bool false)], args := [d1, d2] }
  | _ => none }
def ValueUnlikeWrongFalsely : Prop := valueUnlikeRow.holds Try.pinned (OpenSpec.ofChange valueUnlikeWrong)

/- THE SECOND FORM. 'bulk': how many values and letters a reading holds, each counted each time it is reached (what is shared counts as often as it is met; a slice's spare places count too). A statement '..UptoSaid' is the law's where the arguments, and the package variables that the reading takes, are together of bulk at most 1048576: NARROWER than '..Said'. Prove '..Said' where nothing that the law and all that it calls make is longer than what came in: it says more and counts as full. Else prove '..UptoSaid'. A law counts once. -/
mutual
def uptoBulk {H : Type} : DataW H → Nat
  | .lit (.string bytes) => bytes.length + 1
  | .lit _ => 1
  | .nil => 1
  | .ptr d => uptoBulk d + 1
  | .slice elems spare => uptoBulkAll elems + uptoBulkAll spare + 1
  | .agg parts => uptoBulkAll parts + 1
  | .iface _ d => uptoBulk d + 1
  | .map entries => uptoBulkEntries entries + 1
  | .held _ => 1
def uptoBulkAll {H : Type} : List (DataW H) → Nat
  | [] => 0
  | d :: r => uptoBulk d + uptoBulkAll r
def uptoBulkEntries {H : Type} : List (Lit × DataW H) → Nat
  | [] => 0
  | x :: r => uptoBulkEntry x + uptoBulkEntries r
def uptoBulkEntry {H : Type} : Lit × DataW H → Nat
  | (.string bytes, d) => bytes.length + uptoBulk d + 1
  | (_, d) => uptoBulk d + 1
 end
def uptoSmall : (H : Type) → List (DataW H) → Bool := fun _ ds => decide (uptoBulkAll ds ≤ 1048576)
def OpenSpec.upto (s : _root_.Go.ChangeSpec) : _root_.Go.OpenSpec := { _root_.Go.OpenSpec.ofChange s with cond := some uptoSmall }

/-- 'synodlaw05.BallotOrder', WHERE WHAT IT READS IS OF BULK AT MOST 1048576: true; the input reads as it did. -/
def ballotOrderUptoRow : OpenClaim := { program := "ytapbcpilklhoiaa", sum := "c2a6f65c54f6c2946ce883cce4f2eca6c5474d55cdf2c72b416674c3c0f992c1", func := "synod/synodlaw05.BallotOrder", spec := "ballotOrder", apart := false, narrowed := true }
def BallotOrderUptoSaid : Prop := ballotOrderUptoRow.holds Try.pinned (OpenSpec.upto ballotOrderSpec)

/-- 'synodlaw05.BallotSets', WHERE WHAT IT READS IS OF BULK AT MOST 1048576: true; the input reads as it did. -/
def ballotSetsUptoRow : OpenClaim := { program := "ytapbcpilklhoiaa", sum := "c2a6f65c54f6c2946ce883cce4f2eca6c5474d55cdf2c72b416674c3c0f992c1", func := "synod/synodlaw05.BallotSets", spec := "ballotSets", apart := false, narrowed := true }
def BallotSetsUptoSaid : Prop := ballotSetsUptoRow.holds Try.pinned (OpenSpec.upto ballotSetsSpec)

/-- 'synodlaw05.BallotMeets', WHERE WHAT IT READS IS OF BULK AT MOST 1048576: true; the input reads as it did. -/
def ballotMeetsUptoRow : OpenClaim := { program := "ytapbcpilklhoiaa", sum := "c2a6f65c54f6c2946ce883cce4f2eca6c5474d55cdf2c72b416674c3c0f992c1", func := "synod/synodlaw05.BallotMeets", spec := "ballotMeets", apart := false, narrowed := true }
def BallotMeetsUptoSaid : Prop := ballotMeetsUptoRow.holds Try.pinned (OpenSpec.upto ballotMeetsSpec)

/-- 'synodlaw05.BallotTurns', WHERE WHAT IT READS IS OF BULK AT MOST 1048576: true; the input reads as it did. -/
def ballotTurnsUptoRow : OpenClaim := { program := "ytapbcpilklhoiaa", sum := "c2a6f65c54f6c2946ce883cce4f2eca6c5474d55cdf2c72b416674c3c0f992c1", func := "synod/synodlaw05.BallotTurns", spec := "ballotTurns", apart := false, narrowed := true }
def BallotTurnsUptoSaid : Prop := ballotTurnsUptoRow.holds Try.pinned (OpenSpec.upto ballotTurnsSpec)

/-- 'synodlaw05.BallotShares', WHERE WHAT IT READS IS OF BULK AT MOST 1048576: true; the input reads as it did. -/
def ballotSharesUptoRow : OpenClaim := { program := "ytapbcpilklhoiaa", sum := "c2a6f65c54f6c2946ce883cce4f2eca6c5474d55cdf2c72b416674c3c0f992c1", func := "synod/synodlaw05.BallotShares", spec := "ballotShares", apart := false, narrowed := true }
def BallotSharesUptoSaid : Prop := ballotSharesUptoRow.holds Try.pinned (OpenSpec.upto ballotSharesSpec)

/-- 'synodlaw06.ValueChecks', WHERE WHAT IT READS IS OF BULK AT MOST 1048576: true; the input reads as it did. -/
def valueChecksUptoRow : OpenClaim := { program := "ytapbcpilklhoiaa", sum := "c2a6f65c54f6c2946ce883cce4f2eca6c5474d55cdf2c72b416674c3c0f992c1", func := "synod/synodlaw06.ValueChecks", spec := "valueChecks", apart := false, narrowed := true }
def ValueChecksUptoSaid : Prop := valueChecksUptoRow.holds Try.pinned (OpenSpec.upto valueChecksSpec)

/-- 'synodlaw06.ValueCodes', WHERE WHAT IT READS IS OF BULK AT MOST 1048576: true; the input reads as it did. -/
def valueCodesUptoRow : OpenClaim := { program := "ytapbcpilklhoiaa", sum := "c2a6f65c54f6c2946ce883cce4f2eca6c5474d55cdf2c72b416674c3c0f992c1", func := "synod/synodlaw06.ValueCodes", spec := "valueCodes", apart := false, narrowed := true }
def ValueCodesUptoSaid : Prop := valueCodesUptoRow.holds Try.pinned (OpenSpec.upto valueCodesSpec)

/-- 'synodlaw06.ValueBack', WHERE WHAT IT READS IS OF BULK AT MOST 1048576: true; the input reads as it did. -/
def valueBackUptoRow : OpenClaim := { program := "ytapbcpilklhoiaa", sum := "c2a6f65c54f6c2946ce883cce4f2eca6c5474d55cdf2c72b416674c3c0f992c1", func := "synod/synodlaw06.ValueBack", spec := "valueBack", apart := false, narrowed := true }
def ValueBackUptoSaid : Prop := valueBackUptoRow.holds Try.pinned (OpenSpec.upto valueBackSpec)

/-- 'synodlaw06.ValueSame', WHERE WHAT IT READS IS OF BULK AT MOST 1048576: true; the input reads as it did. -/
def valueSameUptoRow : OpenClaim := { program := "ytapbcpilklhoiaa", sum := "c2a6f65c54f6c2946ce883cce4f2eca6c5474d55cdf2c72b416674c3c0f992c1", func := "synod/synodlaw06.ValueSame", spec := "valueSame", apart := false, narrowed := true }
def ValueSameUptoSaid : Prop := valueSameUptoRow.holds Try.pinned (OpenSpec.upto valueSameSpec)

/-- 'synodlaw06.ValueStream', WHERE WHAT IT READS IS OF BULK AT MOST 1048576: true; the input reads as it did. -/
def valueStreamUptoRow : OpenClaim := { program := "ytapbcpilklhoiaa", sum := "c2a6f65c54f6c2946ce883cce4f2eca6c5474d55cdf2c72b416674c3c0f992c1", func := "synod/synodlaw06.ValueStream", spec := "valueStream", apart := false, narrowed := true }
def ValueStreamUptoSaid : Prop := valueStreamUptoRow.holds Try.pinned (OpenSpec.upto valueStreamSpec)

/-- 'synodlaw06.ValueUnlike', WHERE WHAT IT READS IS OF BULK AT MOST 1048576: true; the input reads as it did. -/
def valueUnlikeUptoRow : OpenClaim := { program := "ytapbcpilklhoiaa", sum := "c2a6f65c54f6c2946ce883cce4f2eca6c5474d55cdf2c72b416674c3c0f992c1", func := "synod/synodlaw06.ValueUnlike", spec := "valueUnlike", apart := false, narrowed := true }
def ValueUnlikeUptoSaid : Prop := valueUnlikeUptoRow.holds Try.pinned (OpenSpec.upto valueUnlikeSpec)

end Rows
end Go.Proofs.Ytapbcpilklhoiaa
