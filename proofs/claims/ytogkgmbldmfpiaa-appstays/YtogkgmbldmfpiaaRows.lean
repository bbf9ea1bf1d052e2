/-
  No cell of these rows narrows 'for every input' (looked for: loops, veiled, ifaces, maps, wideKeys, modest, calm, conditions, laid).
  DERIVED. THE GIVEN ROWS OF THIS SEAT. 9 by the template 'for every input the law returns true; each argument reads behind the call as it read before'; 0 by the template 'total and deterministic' (their statements: YtogkgmbldmfpiaaTotals.lean).
  GIVEN WITH THE SEED: the statements are not yours to turn. If you find one false, say at which input.
  Laid BY PROGRAM, IN A SANDBOX (cutbox-rows.mjs): the forced cells as the released guide's own fill.sh prints them over the translation c444115e14fc5368… (all of the seat's roots in one cut). By AI agents, Wed Nov 11 2026. No macro, syntax, notation, axiom, sorry.
-/
import Derived.Test.YtogkgmbldmfpiaaChecked
import GoSem.Claim
import GoSem.ClaimJoined
import GoSem.ClaimMapViews
import Derived.JoinedTies
import Derived.KernelRfl
namespace Go.Proofs.Ytogkgmbldmfpiaa
/- THE CELL 'sum', in the pinned program and in every row, IS THE sha256 OF THE DUMP (.gsa) THAT YtogkgmbldmfpiaaProg.lean LOADS. Nothing in Lean hashes anything: it is a label: what it is worth is what the hold of that sum in a sandbox is worth. -/
noncomputable def Try.pinned : Pinned := { name := "ytogkgmbldmfpiaa", sum := "c444115e14fc53682dfab761bb26f219b83a25ca1ad17e3928134e0a00c351cd", checked := Try.checked }
namespace Rows
def none {H : Type} : Left H := { results := [], args := [] }

/-- 'synodlaw03.GaussParts': WHATEVER THE INPUT: true; the input reads as it did. -/
def gaussPartsSpec : ChangeSpec := { name := "gaussParts", fn := fun _ => fun
  | [d1, d2] => { results := [.lit (.bool true)], args := [d1, d2] }
  | _ => none }
def gaussPartsRow : OpenClaim := { program := "ytogkgmbldmfpiaa", sum := "c444115e14fc53682dfab761bb26f219b83a25ca1ad17e3928134e0a00c351cd", func := "synod/synodlaw03.GaussParts", spec := "gaussParts", apart := false }
def GaussPartsSaid : Prop := gaussPartsRow.holds Try.pinned (OpenSpec.ofChange gaussPartsSpec)

/-- ITS FALSE NEIGHBOUR: 'it returns false'. Refute it at one input. -/
def gaussPartsWrong : ChangeSpec := { name := "gaussParts", fn := fun _ => fun
  | [d1, d2] => { results := [.lit (.bool false)], args := [d1, d2] }
  | _ => none }
def GaussPartsWrongFalsely : Prop := gaussPartsRow.holds Try.pinned (OpenSpec.ofChange gaussPartsWrong)

/-- 'synodlaw03.GaussReckons': WHATEVER THE INPUT: true; the input reads as it did. -/
def gaussReckonsSpec : ChangeSpec := { name := "gaussReckons", fn := fun _ => fun
  | [d1, d2, d3, d4, d5] => { results := [.lit (.bool true)], args := [d1, d2, d3, d4, d5] }
  | _ => none }
def gaussReckonsRow : OpenClaim := { program := "ytogkgmbldmfpiaa", sum := "c444115e14fc53682dfab761bb26f219b83a25ca1ad17e3928134e0a00c351cd", func := "synod/synodlaw03.GaussReckons", spec := "gaussReckons", apart := false }
def GaussReckonsSaid : Prop := gaussReckonsRow.holds Try.pinned (OpenSpec.ofChange gaussReckonsSpec)

/-- ITS FALSE NEIGHBOUR: 'it returns false'. Refute it at one input. -/
def gaussReckonsWrong : ChangeSpec := { name := "gaussReckons", fn := fun _ => fun
  | [d1, d2, d3, d4, d5] => { results := [.lit (.bool false)], args := [d1, d2, d3, d4, d5] }
  | _ => none }
def GaussReckonsWrongFalsely : Prop := gaussReckonsRow.holds Try.pinned (OpenSpec.ofChange gaussReckonsWrong)

/-- 'synodlaw03.GaussRules': WHATEVER THE INPUT: true; the input reads as it did. -/
def gaussRulesSpec : ChangeSpec := { name := "gaussRules", fn := fun _ => fun
  | [d1, d2, d3, d4, d5] => { results := [.lit (.bool true)], args := [d1, d2, d3, d4, d5] }
  | _ => none }
def gaussRulesRow : OpenClaim := { program := "ytogkgmbldmfpiaa", sum := "c444115e14fc53682dfab761bb26f219b83a25ca1ad17e3928134e0a00c351cd", func := "synod/synodlaw03.GaussRules", spec := "gaussRules", apart := false }
def GaussRulesSaid : Prop := gaussRulesRow.holds Try.pinned (OpenSpec.ofChange gaussRulesSpec)

/-- ITS FALSE NEIGHBOUR: 'it returns false'. Refute it at one input. -/
def gaussRulesWrong : ChangeSpec := { name := "gaussRules", fn := fun _ => fun
  | [d1, d2, d3, d4, d5] => { results := [.lit (.bool false)], args := [d1, d2, d3, d4, d5] }
  | _ => none }
def GaussRulesWrongFalsely : Prop := gaussRulesRow.holds Try.pinned (OpenSpec.ofChange gaussRulesWrong)

/-- 'synodlaw04.AppChecks': WHATEVER THE INPUT: true; the input reads as it did. -/
def appChecksSpec : ChangeSpec := { name := "appChecks", fn := fun _ => fun
  | [d1, d2] => { results := [.lit (.bool true)], args := [d1, d2] }
  | _ => none }
def appChecksRow : OpenClaim := { program := "ytogkgmbldmfpiaa", sum := "c444115e14fc53682dfab761bb26f219b83a25ca1ad17e3928134e0a00c351cd", func := "synod/synodlaw04.AppChecks", spec := "appChecks", apart := false }
def AppChecksSaid : Prop := appChecksRow.holds Try.pinned (OpenSpec.ofChange appChecksSpec)

/-- ITS FALSE NEIGHBOUR: 'it returns false'. Refute it at one input. -/
def appChecksWrong : ChangeSpec := { name := "appChecks", fn := fun _ => fun
  | [d1, d2] => { results := [.lit (.bool false)], args := [d1, d2] }
  | _ => none }
def AppChecksWrongFalsely : Prop := appChecksRow.holds Try.pinned (OpenSpec.ofChange appChecksWrong)

/-- 'synodlaw04.AppApplies': WHATEVER THE INPUT: true; the input reads as it did. -/
def appAppliesSpec : ChangeSpec := { name := "appApplies", fn := fun _ => fun
  | [d1, d2] => { results := [.lit (.bool true)], args := [d1, d2] }
  | _ => none }
def appAppliesRow : OpenClaim := { program := "ytogkgmbldmfpiaa", sum := "c444115e14fc53682dfab761bb26f219b83a25ca1ad17e3928134e0a00c351cd", func := "synod/synodlaw04.AppApplies", spec := "appApplies", apart := false }
def AppAppliesSaid : Prop := appAppliesRow.holds Try.pinned (OpenSpec.ofChange appAppliesSpec)

/-- ITS FALSE NEIGHBOUR: 'it returns false'. Refute it at one input. -/
def appAppliesWrong : ChangeSpec := { name := "appApplies", fn := fun _ => fun
  | [d1, d2] => { results := [.lit (.bool false)], args := [d1, d2] }
  | _ => none }
def AppAppliesWrongFalsely : Prop := appAppliesRow.holds Try.pinned (OpenSpec.ofChange appAppliesWrong)

/-- 'synodlaw04.AppStays': WHATEVER THE INPUT: true; the input reads as it did. -/
def appStaysSpec : ChangeSpec := { name := "appStays", fn := fun _ => fun
  | [d] => { results := [.lit (.bool true)], args := [d] }
  | _ => none }
def appStaysRow : OpenClaim := { program := "ytogkgmbldmfpiaa", sum := "c444115e14fc53682dfab761bb26f219b83a25ca1ad17e3928134e0a00c351cd", func := "synod/synodlaw04.AppStays", spec := "appStays", apart := false }
def AppStaysSaid : Prop := appStaysRow.holds Try.pinned (OpenSpec.ofChange appStaysSpec)

/-- ITS FALSE NEIGHBOUR: 'it returns false'. Refute it at one input. -/
def appStaysWrong : ChangeSpec := { name := "appStays", fn := fun _ => fun
  | [d] => { results := [.lit (.bool false)], args := [d] }
  | _ => none }
def AppStaysWrongFalsely : Prop := appStaysRow.holds Try.pinned (OpenSpec.ofChange appStaysWrong)

/-- 'synodlaw04.AppTwice': WHATEVER THE INPUT: true; the input reads as it did. -/
def appTwiceSpec : ChangeSpec := { name := "appTwice", fn := fun _ => fun
  | [d1, d2, d3, d4, d5] => { results := [.lit (.bool true)], args := [d1, d2, d3, d4, d5] }
  | _ => none }
def appTwiceRow : OpenClaim := { program := "ytogkgmbldmfpiaa", sum := "c444115e14fc53682dfab761bb26f219b83a25ca1ad17e3928134e0a00c351cd", func := "synod/synodlaw04.AppTwice", spec := "appTwice", apart := false }
def AppTwiceSaid : Prop := appTwiceRow.holds Try.pinned (OpenSpec.ofChange appTwiceSpec)

/-- ITS FALSE NEIGHBOUR: 'it returns false'. Refute it at one input. -/
def appTwiceWrong : ChangeSpec := { name := "appTwice", fn := fun _ => fun
  | [d1, d2, d3, d4, d5] => { results := [.lit (.bool false)], args := [d1, d2, d3, d4, d5] }
  | _ => none }
def AppTwiceWrongFalsely : Prop := appTwiceRow.holds Try.pinned (OpenSpec.ofChange appTwiceWrong)

/-- 'synodlaw04.AppApart': WHATEVER THE INPUT: true; the input reads as it did. -/
def appApartSpec : ChangeSpec := { name := "appApart", fn := fun _ => fun
  | [d1, d2, d3, d4] => { results := [.lit (.bool true)], args := [d1, d2, d3, d4] }
  | _ => none }
def appApartRow : OpenClaim := { program := "ytogkgmbldmfpiaa", sum := "c444115e14fc53682dfab761bb26f219b83a25ca1ad17e3928134e0a00c351cd", func := "synod/synodlaw04.AppApart", spec := "appApart", apart := false }
def AppApartSaid : Prop := appApartRow.holds Try.pinned (OpenSpec.ofChange appApartSpec)

/-- ITS FALSE NEIGHBOUR: 'it returns false'. Refute it at one input. -/
def appApartWrong : ChangeSpec := { name := "appApart", fn := fun _ => fun
  | [d1, d2, d3, d4] => { results := [.lit (.bool false)], args := [d1, d2, d3, d4] }
  | _ => none }
def AppApartWrongFalsely : Prop := appApartRow.holds Try.pinned (OpenSpec.ofChange appApartWrong)

/-- 'synodlaw04.AppTakes': WHATEVER THE INPUT: true; the input reads as it did. -/
def appTakesSpec : ChangeSpec := { name := "appTakes", fn := fun _ => fun
  | [d1, d2, d3] => { results := [.lit (.bool true)], args := [d1, d2, d3] }
  | _ => none }
def appTakesRow : OpenClaim := { program := "ytogkgmbldmfpiaa", sum := "c444115e14fc53682dfab761bb26f219b83a25ca1ad17e3928134e0a00c351cd", func := "synod/synodlaw04.AppTakes", spec := "appTakes", apart := false }
def AppTakesSaid : Prop := appTakesRow.holds Try.pinned (OpenSpec.ofChange appTakesSpec)

/-- ITS FALSE NEIGHBOUR: 'it returns false'. Refute it at one input. -/
def appTakesWrong : ChangeSpec := { name := "appTakes", fn := fun _ => fun
  | [d1, d2, d3] => { results := [.lit (.bool false)], args := [d1, d2, d3] }
  | _ => none }
def AppTakesWrongFalsely : Prop := appTakesRow.holds Try.pinned (OpenSpec.ofChange appTakesWrong)

/- THE SECOND FORM. 'bulk': how many values and letters a reading holds, each counted each time it is reached (what is shared counts as often as it is met; a slice's spare places count too). A statement '..UptoSaid' is the law's where the arguments, and the package variables that the reading takes, are together of bulk at most 1048576: NARROWER than '..Said'. Prove '..Said' where nothing that the law and all that it calls make is longer than what came in: it says more and counts as full. Else prove '..UptoSaid'. A law counts once. -/
mutual
def uptoBulk {H : Type} : DataW H → Nat
  | .lit (.string bytes) => bytes.length + 1
  | .lit _ => 1
  | .nil => 1
  | .ptr d => uptoBulk d + 1
  | .slice elems spare => uptoBulkAll elems + uptoBulkAll spare + 1
  | .agg parts => uptoBulkAll parts + 1
  | .iface _ d => uptoBulk d + 1
  | .map entries => uptoBulkEntries entries + 1
  | .held _ => 1
def uptoBulkAll {H : Type} : List (DataW H) → Nat
  | [] => 0
  | d :: r => uptoBulk d + uptoBulkAll r
def uptoBulkEntries {H : Type} : List (Lit × DataW H) → Nat
  | [] => 0
  | x :: r => uptoBulkEntry x + uptoBulkEntries r
def uptoBulkEntry {H : Type} : Lit × DataW H → Nat
  | (.string bytes, d) => bytes.length + uptoBulk d + 1
  | (_, d) => uptoBulk d + 1
 end
def uptoSmall : (H : Type) → List (DataW H) → Bool := fun _ ds => decide (uptoBulkAll ds ≤ 1048576)
def OpenSpec.upto (s : _root_.Go.ChangeSpec) : _root_.Go.OpenSpec := { _root_.Go.OpenSpec.ofChange s with cond := some uptoSmall }

/-- 'synodlaw03.GaussParts', WHERE WHAT IT READS IS OF BULK AT MOST 1048576: true; the input reads as it did. -/
def gaussPartsUptoRow : OpenClaim := { program := "ytogkgmbldmfpiaa", sum := "c444115e14fc53682dfab761bb26f219b83a25ca1ad17e3928134e0a00c351cd", func := "synod/synodlaw03.GaussParts", spec := "gaussParts", apart := false, narrowed := true }
def GaussPartsUptoSaid : Prop := gaussPartsUptoRow.holds Try.pinned (OpenSpec.upto gaussPartsSpec)

/-- 'synodlaw03.GaussReckons', WHERE WHAT IT READS IS OF BULK AT MOST 1048576: true; the input reads as it did. -/
def gaussReckonsUptoRow : OpenClaim := { program := "ytogkgmbldmfpiaa", sum := "c444115e14fc53682dfab761bb26f219b83a25ca1ad17e3928134e0a00c351cd", func := "synod/synodlaw03.GaussReckons", spec := "gaussReckons", apart := false, narrowed := true }
def GaussReckonsUptoSaid : Prop := gaussReckonsUptoRow.holds Try.pinned (OpenSpec.upto gaussReckonsSpec)

/-- 'synodlaw03.GaussRules', WHERE WHAT IT READS IS OF BULK AT MOST 1048576: true; the input reads as it did. -/
def gaussRulesUptoRow : OpenClaim := { program := "ytogkgmbldmfpiaa", sum := "c444115e14fc53682dfab761bb26f219b83a25ca1ad17e3928134e0a00c351cd", func := "synod/synodlaw03.GaussRules", spec := "gaussRules", apart := false, narrowed := true }
def GaussRulesUptoSaid : Prop := gaussRulesUptoRow.holds Try.pinned (OpenSpec.upto gaussRulesSpec)

/-- 'synodlaw04.AppChecks', WHERE WHAT IT READS IS OF BULK AT MOST 1048576: true; the input reads as it did. -/
def appChecksUptoRow : OpenClaim := { program := "ytogkgmbldmfpiaa", sum := "c444115e14fc53682dfab761bb26f219b83a25ca1ad17e3928134e0a00c351cd", func := "synod/synodlaw04.AppChecks", spec := "appChecks", apart := false, narrowed := true }
def AppChecksUptoSaid : Prop := appChecksUptoRow.holds Try.pinned (OpenSpec.upto appChecksSpec)

/-- 'synodlaw04.AppApplies', WHERE WHAT IT READS IS OF BULK AT MOST 1048576: true; the input reads as it did. -/
def appAppliesUptoRow : OpenClaim := { program := "ytogkgmbldmfpiaa", sum := "c444115e14fc53682dfab761bb26f219b83a25ca1ad17e3928134e0a00c351cd", func := "synod/synodlaw04.AppApplies", spec := "appApplies", apart := false, narrowed := true }
def AppAppliesUptoSaid : Prop := appAppliesUptoRow.holds Try.pinned (OpenSpec.upto appAppliesSpec)

/-- 'synodlaw04.AppStays', WHERE WHAT IT READS IS OF BULK AT MOST 1048576: true; the input reads as it did. -/
def appStaysUptoRow : OpenClaim := { program := "ytogkgmbldmfpiaa", sum := "c444115e14fc53682dfab761bb26f219b83a25ca1ad17e3928134e0a00c351cd", func := "synod/synodlaw04.AppStays", spec := "appStays", apart := false, narrowed := true }
def AppStaysUptoSaid : Prop := appStaysUptoRow.holds Try.pinned (OpenSpec.upto appStaysSpec)

/-- 'synodlaw04.AppTwice', WHERE WHAT IT READS IS OF BULK AT MOST 1048576: true; the input reads as it did. -/
def appTwiceUptoRow : OpenClaim := { program := "ytogkgmbldmfpiaa", sum := "c444115e14fc53682dfab761bb26f219b83a25ca1ad17e3928134e0a00c351cd", func := "synod/synodlaw04.AppTwice", spec := "appTwice", apart := false, narrowed := true }
def AppTwiceUptoSaid : Prop := appTwiceUptoRow.holds Try.pinned (OpenSpec.upto appTwiceSpec)

/-- 'synodlaw04.AppApart', WHERE WHAT IT READS IS OF BULK AT MOST 1048576: true; the input reads as it did. -/
def appApartUptoRow : OpenClaim := { program := "ytogkgmbldmfpiaa", sum := "c444115e14fc53682dfab761bb26f219b83a25ca1ad17e3928134e0a00c351cd", func := "synod/synodlaw04.AppApart", spec := "appApart", apart := false, narrowed := true }
def AppApartUptoSaid : Prop := appApartUptoRow.holds Try.pinned (OpenSpec.upto appApartSpec)

/-- 'synodlaw04.AppTakes', WHERE WHAT IT READS IS OF BULK AT MOST 1048576: true; the input reads as it did. -/
def appTakesUptoRow : OpenClaim := { program := "ytogkgmbldmfpiaa", sum := "c444115e14fc53682dfab761bb26f219b83a25ca1ad17e3928134e0a00c351cd", func := "synod/synodlaw04.AppTakes", spec := "appTakes", apart := false, narrowed := true }
def AppTakesUptoSaid : Prop := appTakesUptoRow.holds Try.pinned (OpenSpec.upto appTakesSpec)

end Rows
end Go.Proofs.Ytogkgmbldmfpiaa
