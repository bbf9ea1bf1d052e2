/-
  NARROWER THAN 'FOR EVERY INPUT', by the rows' own cells (each row's printed sentence says how): MsgEncodes: laid · MsgDecodes: laid · MsgBack: laid · MsgClones: laid · MsgUnlike: laid.
  DERIVED. THE GIVEN ROWS OF THIS SEAT. 5 by the template 'for every input the law returns true; each argument reads behind the call as it read before'; 0 by the template 'total and deterministic' (their statements: YtapbcpilklhoiabDoorTotals.lean).
  GIVEN WITH THE SEED: the statements are not yours to turn. If you find one false, say at which input.
  Laid BY PROGRAM, IN A SANDBOX (cutbox-rows.mjs): the forced cells as the released guide's own fill.sh prints them over the translation 3030db5a2044a4aa… (all of the seat's roots in one cut). By AI agents, Wed Nov 11 2026. No macro, syntax, notation, axiom, sorry.
-/
import Derived.Test.YtapbcpilklhoiabDoorChecked
import GoSem.Claim
import GoSem.ClaimJoined
import GoSem.ClaimMapViews
import Derived.JoinedTies
import Derived.KernelRfl
namespace Go.Proofs.YtapbcpilklhoiabDoor
/- THE CELL 'sum', in the pinned program and in every row, IS THE sha256 OF THE DUMP (.gsa) THAT YtapbcpilklhoiabDoorProg.lean LOADS. Nothing in Lean hashes anything: it is a label: what it is worth is what the hold of that sum in a sandbox is worth. -/
noncomputable def Tryd.pinned : Pinned := { name := "ytapbcpilklhoiabdoor", sum := "3030db5a2044a4aae10c3afde0d4e9a59e166f4defeafc152471d00ecd49f0c9", checked := Tryd.checked }
namespace Rows
def none {H : Type} : Left H := { results := [], args := [] }

/- WHAT THE LISTED PACKAGE-LEVEL VARIABLES READ AS WHEN THE CALL BEGINS. Each datum BY PROGRAM (the guide's laid-datum.mjs) off the statement by which the dump's own 'gosem.cut.vars' lays the variable. In a bare row this is a premise. The card (YtapbcpilklhoiabDoorCards.lean) ties it to the program's text. -/
def laid_synod_msg_usedBy {H : Type} : DataW H := .agg [.lit (.int .i64 0), .lit (.int .i64 15), .lit (.int .i64 159), .lit (.int .i64 3), .lit (.int .i64 79), .lit (.int .i64 79), .lit (.int .i64 39), .lit (.int .i64 35), .lit (.int .i64 13), .lit (.int .i64 77), .lit (.int .i64 1045), .lit (.int .i64 21), .lit (.int .i64 1045), .lit (.int .i64 257), .lit (.int .i64 769)]

/-- 'synodlaw07.MsgEncodes': WHATEVER THE INPUT: true; the input reads as it did. -/
def msgEncodesSpec : ChangeSpec := { name := "msgEncodes", fn := fun _ => fun
  | [d] => { results := [.lit (.bool true)], args := [d] }
  | _ => none }
def msgEncodesRow : OpenClaim := { program := "ytapbcpilklhoiabdoor", sum := "3030db5a2044a4aae10c3afde0d4e9a59e166f4defeafc152471d00ecd49f0c9", func := "synod/synodlaw07.MsgEncodes", spec := "msgEncodes", unfollowed := true, recurses := true, named := ["synod/msg.usedBy"], apart := false, laid := [("synod/msg.usedBy", laid_synod_msg_usedBy)] }
def MsgEncodesSaid : Prop := msgEncodesRow.holds Tryd.pinned (OpenSpec.ofChange msgEncodesSpec)

/-- ITS FALSE NEIGHBOUR: 'it returns false'. Refute it at one input. -/
def msgEncodesWrong : ChangeSpec := { name := "msgEncodes", fn := fun _ => fun
  | [d] => { results := [.lit (.bool false)], args := [d] }
  | _ => none }
def MsgEncodesWrongFalsely : Prop := msgEncodesRow.holds Tryd.pinned (OpenSpec.ofChange msgEncodesWrong)

/-- 'synodlaw07.MsgDecodes': WHATEVER THE INPUT: true; the input reads as it did. -/
def msgDecodesSpec : ChangeSpec := { name := "msgDecodes", fn := fun _ => fun
  | [d] => { results := [.lit (.bool true)], args := [d] }
  | _ => none }
def msgDecodesRow : OpenClaim := { program := "ytapbcpilklhoiabdoor", sum := "3030db5a2044a4aae10c3afde0d4e9a59e166f4defeafc152471d00ecd49f0c9", func := "synod/synodlaw07.MsgDecodes", spec := "msgDecodes", unfollowed := true, recurses := true, named := ["synod/msg.usedBy"], apart := false, laid := [("synod/msg.usedBy", laid_synod_msg_usedBy)] }
def MsgDecodesSaid : Prop := msgDecodesRow.holds Tryd.pinned (OpenSpec.ofChange msgDecodesSpec)

/-- ITS FALSE NEIGHBOUR: 'it returns false'. Refute it at one input. -/
def msgDecodesWrong : ChangeSpec := { name := "msgDecodes", fn := fun _ => fun
  | [d] => { results := [.lit (.bool false)], args := [d] }
  | _ => none }
def MsgDecodesWrongFalsely : Prop := msgDecodesRow.holds Tryd.pinned (OpenSpec.ofChange msgDecodesWrong)

/-- 'synodlaw07.MsgBack': WHATEVER THE INPUT: true; the input reads as it did. -/
def msgBackSpec : ChangeSpec := { name := "msgBack", fn := fun _ => fun
  | [d1, d2] => { results := [.lit (.bool true)], args := [d1, d2] }
  | _ => none }
def msgBackRow : OpenClaim := { program := "ytapbcpilklhoiabdoor", sum := "3030db5a2044a4aae10c3afde0d4e9a59e166f4defeafc152471d00ecd49f0c9", func := "synod/synodlaw07.MsgBack", spec := "msgBack", unfollowed := true, recurses := true, named := ["synod/msg.usedBy"], apart := false, laid := [("synod/msg.usedBy", laid_synod_msg_usedBy)] }
def MsgBackSaid : Prop := msgBackRow.holds Tryd.pinned (OpenSpec.ofChange msgBackSpec)

/-- ITS FALSE NEIGHBOUR: 'it returns false'. Refute it at one input. -/
def msgBackWrong : ChangeSpec := { name := "msgBack", fn := fun _ => fun
  | [d1, d2] => { results := [.lit (.bool false)], args := [d1, d2] }
  | _ => none }
def MsgBackWrongFalsely : Prop := msgBackRow.holds Tryd.pinned (OpenSpec.ofChange msgBackWrong)

/-- 'synodlaw07.MsgClones': WHATEVER THE INPUT: true; the input reads as it did. -/
def msgClonesSpec : ChangeSpec := { name := "msgClones", fn := fun _ => fun
  | [d] => { results := [.lit (.bool true)], args := [d] }
  | _ => none }
def msgClonesRow : OpenClaim := { program := "ytapbcpilklhoiabdoor", sum := "3030db5a2044a4aae10c3afde0d4e9a59e166f4defeafc152471d00ecd49f0c9", func := "synod/synodlaw07.MsgClones", spec := "msgClones", unfollowed := true, recurses := true, named := ["synod/msg.usedBy"], apart := false, laid := [("synod/msg.usedBy", laid_synod_msg_usedBy)] }
def MsgClonesSaid : Prop := msgClonesRow.holds Tryd.pinned (OpenSpec.ofChange msgClonesSpec)

/-- ITS FALSE NEIGHBOUR: 'it returns false'. Refute it at one input. -/
def msgClonesWrong : ChangeSpec := { name := "msgClones", fn := fun _ => fun
  | [d] => { results := [.lit (.bool false)], args := [d] }
  | _ => none }
def MsgClonesWrongFalsely : Prop := msgClonesRow.holds Tryd.pinned (OpenSpec.ofChange msgClonesWrong)

/-- 'synodlaw07.MsgUnlike': WHATEVER THE INPUT: true; the input reads as it did. -/
def msgUnlikeSpec : ChangeSpec := { name := "msgUnlike", fn := fun _ => fun
  | [d1, d2, d3] => { results := [.lit (.bool true)], args := [d1, d2, d3] }
  | _ => none }
def msgUnlikeRow : OpenClaim := { program := "ytapbcpilklhoiabdoor", sum := "3030db5a2044a4aae10c3afde0d4e9a59e166f4defeafc152471d00ecd49f0c9", func := "synod/synodlaw07.MsgUnlike", spec := "msgUnlike", unfollowed := true, recurses := true, named := ["synod/msg.usedBy"], apart := false, laid := [("synod/msg.usedBy", laid_synod_msg_usedBy)] }
def MsgUnlikeSaid : Prop := msgUnlikeRow.holds Tryd.pinned (OpenSpec.ofChange msgUnlikeSpec)

/-- ITS FALSE NEIGHBOUR: 'it returns false'. Refute it at one input. -/
def msgUnlikeWrong : ChangeSpec := { name := "msgUnlike", fn := fun _ => fun
  | [d1, d2, d3] => { results := [.lit (.bool false)], args := [d1, d2, d3] }
  | _ => none }
def MsgUnlikeWrongFalsely : Prop := msgUnlikeRow.holds Tryd.pinned (OpenSpec.ofChange msgUnlikeWrong)

/- THE SECOND FORM. 'bulk': how many values and letters a reading holds, each counted each time it is reached (what is shared counts as often as it is met; a slice's spare places count too). A statement '..UptoSaid' is the law's where the arguments, and the package variables that the reading takes, are together of bulk at most 1048576: NARROWER than '..Said'. Prove '..Said' where nothing that the law and all that it calls make is longer than what came in: it says more and counts as full. Else prove '..UptoSaid'. A law counts once. -/
mutual
def uptoBulk {H : Type} : DataW H → Nat
  | .lit (.string bytes) => bytes.length + 1
  | .lit _ => 1
  | .nil => 1
  | .ptr d => uptoBulk d + 1
  | .slice elems spare => uptoBulkAll elems + uptoBulkAll spare + 1
  | .agg parts => uptoBulkAll parts + 1
  | .iface _ d => uptoBulk d + 1
  | .map entries => uptoBulkEntries entries + 1
  | .held _ => 1
def uptoBulkAll {H : Type} : List (DataW H) → Nat
  | [] => 0
  | d :: r => uptoBulk d + uptoBulkAll r
def uptoBulkEntries {H : Type} : List (Lit × DataW H) → Nat
  | [] => 0
  | x :: r => uptoBulkEntry x + uptoBulkEntries r
def uptoBulkEntry {H : Type} : Lit × DataW H → Nat
  | (.string bytes, d) => bytes.length + uptoBulk d + 1
  | (_, d) => uptoBulk d + 1
 end
def uptoSmall : (H : Type) → List (DataW H) → Bool := fun _ ds => decide (uptoBulkAll ds ≤ 1048576)
def OpenSpec.upto (s : _root_.Go.ChangeSpec) : _root_.Go.OpenSpec := { _root_.Go.OpenSpec.ofChange s with cond := some uptoSmall }

/-- 'synodlaw07.MsgEncodes', WHERE WHAT IT READS IS OF BULK AT MOST 1048576: true; the input reads as it did. -/
def msgEncodesUptoRow : OpenClaim := { program := "ytapbcpilklhoiabdoor", sum := "3030db5a2044a4aae10c3afde0d4e9a59e166f4defeafc152471d00ecd49f0c9", func := "synod/synodlaw07.MsgEncodes", spec := "msgEncodes", unfollowed := true, recurses := true, named := ["synod/msg.usedBy"], apart := false, laid := [("synod/msg.usedBy", laid_synod_msg_usedBy)], narrowed := true }
def MsgEncodesUptoSaid : Prop := msgEncodesUptoRow.holds Tryd.pinned (OpenSpec.upto msgEncodesSpec)

/-- 'synodlaw07.MsgDecodes', WHERE WHAT IT READS IS OF BULK AT MOST 1048576: true; the input reads as it did. -/
def msgDecodesUptoRow : OpenClaim := { program := "ytapbcpilklhoiabdoor", sum := "3030db5a2044a4aae10c3afde0d4e9a59e166f4defeafc152471d00ecd49f0c9", func := "synod/synodlaw07.MsgDecodes", spec := "msgDecodes", unfollowed := true, recurses := true, named := ["synod/msg.usedBy"], apart := false, laid := [("synod/msg.usedBy", laid_synod_msg_usedBy)], narrowed := true }
def MsgDecodesUptoSaid : Prop := msgDecodesUptoRow.holds Tryd.pinned (OpenSpec.upto msgDecodesSpec)

/-- 'synodlaw07.MsgBack', WHERE WHAT IT READS IS OF BULK AT MOST 1048576: true; the input reads as it did. -/
def msgBackUptoRow : OpenClaim := { program := "ytapbcpilklhoiabdoor", sum := "3030db5a2044a4aae10c3afde0d4e9a59e166f4defeafc152471d00ecd49f0c9", func := "synod/synodlaw07.MsgBack", spec := "msgBack", unfollowed := true, recurses := true, named := ["synod/msg.usedBy"], apart := false, laid := [("synod/msg.usedBy", laid_synod_msg_usedBy)], narrowed := true }
def MsgBackUptoSaid : Prop := msgBackUptoRow.holds Tryd.pinned (OpenSpec.upto msgBackSpec)

/-- 'synodlaw07.MsgClones', WHERE WHAT IT READS IS OF BULK AT MOST 1048576: true; the input reads as it did. -/
def msgClonesUptoRow : OpenClaim := { program := "ytapbcpilklhoiabdoor", sum := "3030db5a2044a4aae10c3afde0d4e9a59e166f4defeafc152471d00ecd49f0c9", func := "synod/synodlaw07.MsgClones", spec := "msgClones", unfollowed := true, recurses := true, named := ["synod/msg.usedBy"], apart := false, laid := [("synod/msg.usedBy", laid_synod_msg_usedBy)], narrowed := true }
def MsgClonesUptoSaid : Prop := msgClonesUptoRow.holds Tryd.pinned (OpenSpec.upto msgClonesSpec)

/-- 'synodlaw07.MsgUnlike', WHERE WHAT IT READS IS OF BULK AT MOST 1048576: true; the input reads as it did. -/
def msgUnlikeUptoRow : OpenClaim := { program := "ytapbcpilklhoiabdoor", sum := "3030db5a2044a4aae10c3afde0d4e9a59e166f4defeafc152471d00ecd49f0c9", func := "synod/synodlaw07.MsgUnlike", spec := "msgUnlike", unfollowed := true, recurses := true, named := ["synod/msg.usedBy"], apart := false, laid := [("synod/msg.usedBy", laid_synod_msg_usedBy)], narrowed := true }
def MsgUnlikeUptoSaid : Prop := msgUnlikeUptoRow.holds Tryd.pinned (OpenSpec.upto msgUnlikeSpec)

end Rows
end Go.Proofs.YtapbcpilklhoiabDoor
