/-
  NARROWER THAN 'FOR EVERY INPUT', by the rows' own cells (each row's printed sentence says how): WalEntries: laid · WalScans: laid · WalCrashes: laid · WalStale: laid · WalPlaces: laid · WalFull: laid · WalRounds: laid.
  DERIVED. THE GIVEN ROWS OF THIS SEAT. 7 by the template 'for every input the law returns true; each argument reads behind the call as it read before'; 0 by the template 'total and deterministic' (their statements: YtfhgdcljhncjmaaDoorTotals.lean).
  GIVEN WITH THE SEED: the statements are not yours to turn. If you find one false, say at which input.
  Laid BY PROGRAM, IN A SANDBOX (cutbox-rows.mjs): the forced cells as the released guide's own fill.sh prints them over the translation 6ffe704037274be1… (all of the seat's roots in one cut). By AI agents, Wed Nov 11 2026. No macro, syntax, notation, axiom, sorry.
-/
import Derived.Test.YtfhgdcljhncjmaaDoorChecked
import GoSem.Claim
import GoSem.ClaimJoined
import GoSem.ClaimMapViews
import Derived.JoinedTies
import Derived.KernelRfl
namespace Go.Proofs.YtfhgdcljhncjmaaDoor
/- THE CELL 'sum', in the pinned program and in every row, IS THE sha256 OF THE DUMP (.gsa) THAT YtfhgdcljhncjmaaDoorProg.lean LOADS. Nothing in Lean hashes anything: it is a label: what it is worth is what the hold of that sum in a sandbox is worth. -/
noncomputable def Tryd.pinned : Pinned := { name := "ytfhgdcljhncjmaadoor", sum := "6ffe704037274be1dbca5d50755ca1a9599309a1dd7d09ecf6577e1e30a7592f", checked := Tryd.checked }
namespace Rows
def none {H : Type} : Left H := { results := [], args := [] }

/- WHAT THE LISTED PACKAGE-LEVEL VARIABLES READ AS WHEN THE CALL BEGINS. Each datum BY PROGRAM (the guide's laid-datum.mjs) off the statement by which the dump's own 'gosem.cut.vars' lays the variable. In a bare row this is a premise. The card (YtfhgdcljhncjmaaDoorCards.lean) ties it to the program's text. -/
def laid_scriptor_crc_halves {H : Type} : DataW H := .agg [.lit (.int .u32 0), .lit (.int .u32 274646895), .lit (.int .u32 549293790), .lit (.int .u32 820201905), .lit (.int .u32 1098587580), .lit (.int .u32 1361435347), .lit (.int .u32 1640403810), .lit (.int .u32 1905808397), .lit (.int .u32 2197175160), .lit (.int .u32 2460548119), .lit (.int .u32 2722870694), .lit (.int .u32 2987750089), .lit (.int .u32 3280807620), .lit (.int .u32 3553878443), .lit (.int .u32 3811616794), .lit (.int .u32 4084100981)]

/-- 'scriptorlaw05.WalEntries': WHATEVER THE INPUT: true; the input reads as it did. -/
def walEntriesSpec : ChangeSpec := { name := "walEntries", fn := fun _ => fun
  | [d] => { results := [.lit (.bool true)], args := [d] }
  | _ => none }
def walEntriesRow : OpenClaim := { program := "ytfhgdcljhncjmaadoor", sum := "6ffe704037274be1dbca5d50755ca1a9599309a1dd7d09ecf6577e1e30a7592f", func := "scriptor/scriptorlaw05.WalEntries", spec := "walEntries", inPlace := ["internal/abi.NoEscape", "internal/bytealg.MakeNoZero"], unfollowed := true, recurses := true, named := ["scriptor/crc.halves"], apart := false, laid := [("scriptor/crc.halves", laid_scriptor_crc_halves)] }
def WalEntriesSaid : Prop := walEntriesRow.holds Tryd.pinned (OpenSpec.ofChange walEntriesSpec)

/-- ITS FALSE NEIGHBOUR: 'it returns false'. Refute it at one input. -/
def walEntriesWrong : ChangeSpec := { name := "walEntries", fn := fun _ => fun
  | [d] => { results := [.lit (.bool false)], args := [d] }
  | _ => none }
def WalEntriesWrongFalsely : Prop := walEntriesRow.holds Tryd.pinned (OpenSpec.ofChange walEntriesWrong)

/-- 'scriptorlaw05.WalScans': WHATEVER THE INPUT: true; the input reads as it did. -/
def walScansSpec : ChangeSpec := { name := "walScans", fn := fun _ => fun
  | [d] => { results := [.lit (.bool true)], args := [d] }
  | _ => none }
def walScansRow : OpenClaim := { program := "ytfhgdcljhncjmaadoor", sum := "6ffe704037274be1dbca5d50755ca1a9599309a1dd7d09ecf6577e1e30a7592f", func := "scriptor/scriptorlaw05.WalScans", spec := "walScans", inPlace := ["internal/abi.NoEscape", "internal/bytealg.MakeNoZero"], unfollowed := true, recurses := true, named := ["scriptor/crc.halves"], apart := false, laid := [("scriptor/crc.halves", laid_scriptor_crc_halves)] }
def WalScansSaid : Prop := walScansRow.holds Tryd.pinned (OpenSpec.ofChange walScansSpec)

/-- ITS FALSE NEIGHBOUR: 'it returns false'. Refute it at one input. -/
def walScansWrong : ChangeSpec := { name := "walScans", fn := fun _ => fun
  | [d] => { results := [.lit (.bool false)], args := [d] }
  | _ => none }
def WalScansWrongFalsely : Prop := walScansRow.holds Tryd.pinned (OpenSpec.ofChange walScansWrong)

/-- 'scriptorlaw05.WalCrashes': WHATEVER THE INPUT: true; the input reads as it did. -/
def walCrashesSpec : ChangeSpec := { name := "walCrashes", fn := fun _ => fun
  | [d] => { results := [.lit (.bool true)], args := [d] }
  | _ => none }
def walCrashesRow : OpenClaim := { program := "ytfhgdcljhncjmaadoor", sum := "6ffe704037274be1dbca5d50755ca1a9599309a1dd7d09ecf6577e1e30a7592f", func := "scriptor/scriptorlaw05.WalCrashes", spec := "walCrashes", inPlace := ["internal/abi.NoEscape", "internal/bytealg.MakeNoZero"], unfollowed := true, recurses := true, named := ["scriptor/crc.halves"], apart := false, laid := [("scriptor/crc.halves", laid_scriptor_crc_halves)] }
def WalCrashesSaid : Prop := walCrashesRow.holds Tryd.pinned (OpenSpec.ofChange walCrashesSpec)

/-- ITS FALSE NEIGHBOUR: 'it returns false'. Refute it at one input. -/
def walCrashesWrong : ChangeSpec := { name := "walCrashes", fn := fun _ => fun
  | [d] => { results := [.lit (.bool false)], args := [d] }
  | _ => none }
def WalCrashesWrongFalsely : Prop := walCrashesRow.holds Tryd.pinned (OpenSpec.ofChange walCrashesWrong)

/-- 'scriptorlaw05.WalStale': WHATEVER THE INPUT: true; the input reads as it did. -/
def walStaleSpec : ChangeSpec := { name := "walStale", fn := fun _ => fun
  | [d1, d2] => { results := [.lit (.bool true)], args := [d1, d2] }
  | _ => none }
def walStaleRow : OpenClaim := { program := "ytfhgdcljhncjmaadoor", sum := "6ffe704037274be1dbca5d50755ca1a9599309a1dd7d09ecf6577e1e30a7592f", func := "scriptor/scriptorlaw05.WalStale", spec := "walStale", inPlace := ["internal/abi.NoEscape", "internal/bytealg.MakeNoZero"], unfollowed := true, recurses := true, named := ["scriptor/crc.halves"], apart := false, laid := [("scriptor/crc.halves", laid_scriptor_crc_halves)] }
def WalStaleSaid : Prop := walStaleRow.holds Tryd.pinned (OpenSpec.ofChange walStaleSpec)

/-- ITS FALSE NEIGHBOUR: 'it returns false'. Refute it at one input. -/
def walStaleWrong : ChangeSpec := { name := "walStale", fn := fun _ => fun
  | [d1, d2] => { results := [.lit (.bool false)], args := [d1, d2] }
  | _ => none }
def WalStaleWrongFalsely : Prop := walStaleRow.holds Tryd.pinned (OpenSpec.ofChange walStaleWrong)

/-- 'scriptorlaw05.WalPlaces': WHATEVER THE INPUT: true; the input reads as it did. -/
def walPlacesSpec : ChangeSpec := { name := "walPlaces", fn := fun _ => fun
  | [d1, d2, d3] => { results := [.lit (.bool true)], args := [d1, d2, d3] }
  | _ => none }
def walPlacesRow : OpenClaim := { program := "ytfhgdcljhncjmaadoor", sum := "6ffe704037274be1dbca5d50755ca1a9599309a1dd7d09ecf6577e1e30a7592f", func := "scriptor/scriptorlaw05.WalPlaces", spec := "walPlaces", inPlace := ["internal/abi.NoEscape", "internal/bytealg.MakeNoZero"], unfollowed := true, recurses := true, named := ["scriptor/crc.halves"], apart := false, laid := [("scriptor/crc.halves", laid_scriptor_crc_halves)] }
def WalPlacesSaid : Prop := walPlacesRow.holds Tryd.pinned (OpenSpec.ofChange walPlacesSpec)

/-- ITS FALSE NEIGHBOUR: 'it returns false'. Refute it at one input. -/
def walPlacesWrong : ChangeSpec := { name := "walPlaces", fn := fun _ => fun
  | [d1, d2, d3] => { results := [.lit (.bool false)], args := [d1, d2, d3] }
  | _ => none }
def WalPlacesWrongFalsely : Prop := walPlacesRow.holds Tryd.pinned (OpenSpec.ofChange walPlacesWrong)

/-- 'scriptorlaw05.WalFull': WHATEVER THE INPUT: true; the input reads as it did. -/
def walFullSpec : ChangeSpec := { name := "walFull", fn := fun _ => fun
  | [d1, d2] => { results := [.lit (.bool true)], args := [d1, d2] }
  | _ => none }
def walFullRow : OpenClaim := { program := "ytfhgdcljhncjmaadoor", sum := "6ffe704037274be1dbca5d50755ca1a9599309a1dd7d09ecf6577e1e30a7592f", func := "scriptor/scriptorlaw05.WalFull", spec := "walFull", inPlace := ["internal/abi.NoEscape", "internal/bytealg.MakeNoZero"], unfollowed := true, recurses := true, named := ["scriptor/crc.halves"], apart := false, laid := [("scriptor/crc.halves", laid_scriptor_crc_halves)] }
def WalFullSaid : Prop := walFullRow.holds Tryd.pinned (OpenSpec.ofChange walFullSpec)

/-- ITS FALSE NEIGHBOUR: 'it returns false'. Refute it at one input. -/
def walFullWrong : ChangeSpec := { name := "walFull", fn := fun _ => fun
  | [d1, d2] => { results := [.lit (.bool false)], args := [d1, d2] }
  | _ => none }
def WalFullWrongFalsely : Prop := walFullRow.holds Tryd.pinned (OpenSpec.ofChange walFullWrong)

/-- 'scriptorlaw05.WalRounds': WHATEVER THE INPUT: true; the input reads as it did. -/
def walRoundsSpec : ChangeSpec := { name := "walRounds", fn := fun _ => fun
  | [d1, d2] => { results := [.lit (.bool true)], args := [d1, d2] }
  | _ => none }
def walRoundsRow : OpenClaim := { program := "ytfhgdcljhncjmaadoor", sum := "6ffe704037274be1dbca5d50755ca1a9599309a1dd7d09ecf6577e1e30a7592f", func := "scriptor/scriptorlaw05.WalRounds", spec := "walRounds", inPlace := ["internal/abi.NoEscape", "internal/bytealg.MakeNoZero"], unfollowed := true, recurses := true, named := ["scriptor/crc.halves"], apart := false, laid := [("scriptor/crc.halves", laid_scriptor_crc_halves)] }
def WalRoundsSaid : Prop := walRoundsRow.holds Tryd.pinned (OpenSpec.ofChange walRoundsSpec)

/-- ITS FALSE NEIGHBOUR: 'it returns false'. Refute it at one input. -/
def walRoundsWrong : ChangeSpec := { name := "walRounds", fn := fun _ => fun
  | [d1, d2] => { results := [.lit (.bool false)], args := [d1, d2] }
  | _ => none }
def WalRoundsWrongFalsely : Prop := walRoundsRow.holds Tryd.pinned (OpenSpec.ofChange walRoundsWrong)

/- THE SECOND FORM. 'bulk': how many values and letters a reading holds, each counted each time it is reached (what is shared counts as often as it is met; a slice's spare places count too). A statement '..UptoSaid' is the law's where the arguments, and the package variables that the reading takes, are together of bulk at most 1048576: NARROWER than '..Said'. Prove '..Said' where nothing that the law and all that it calls make is longer than what came in: it says more and counts as full. Else prove '..UptoSaid'. A law counts once. -/
mutual
def uptoBulk {H : Type} : DataW H → Nat
  | .lit (.string bytes) => bytes.length + 1
  | .lit _ => 1
  | .nil => 1
  | .ptr d => uptoBulk d + 1
  | .slice elems spare => uptoBulkAll elems + uptoBulkAll spare + 1
  | .agg parts => uptoBulkAll parts + 1
  | .iface _ d => uptoBulk d + 1
  | .map entries => uptoBulkEntries entries + 1
  | .held _ => 1
def uptoBulkAll {H : Type} : List (DataW H) → Nat
  | [] => 0
  | d :: r => uptoBulk d + uptoBulkAll r
def uptoBulkEntries {H : Type} : List (Lit × DataW H) → Nat
  | [] => 0
  | x :: r => uptoBulkEntry x + uptoBulkEntries r
def uptoBulkEntry {H : Type} : Lit × DataW H → Nat
  | (.string bytes, d) => bytes.length + uptoBulk d + 1
  | (_, d) => uptoBulk d + 1
 end
def uptoSmall : (H : Type) → List (DataW H) → Bool := fun _ ds => decide (uptoBulkAll ds ≤ 1048576)
def OpenSpec.upto (s : _root_.Go.ChangeSpec) : _root_.Go.OpenSpec := { _root_.Go.OpenSpec.ofChange s with cond := some uptoSmall }

/-- 'scriptorlaw05.WalEntries', WHERE WHAT IT READS IS OF BULK AT MOST 1048576: true; the input reads as it did. -/
def walEntriesUptoRow : OpenClaim := { program := "ytfhgdcljhncjmaadoor", sum := "6ffe704037274be1dbca5d50755ca1a9599309a1dd7d09ecf6577e1e30a7592f", func := "scriptor/scriptorlaw05.WalEntries", spec := "walEntries", inPlace := ["internal/abi.NoEscape", "internal/bytealg.MakeNoZero"], unfollowed := true, recurses := true, named := ["scriptor/crc.halves"], apart := false, laid := [("scriptor/crc.halves", laid_scriptor_crc_halves)], narrowed := true }
def WalEntriesUptoSaid : Prop := walEntriesUptoRow.holds Tryd.pinned (OpenSpec.upto walEntriesSpec)

/-- 'scriptorlaw05.WalScans', WHERE WHAT IT READS IS OF BULK AT MOST 1048576: true; the input reads as it did. -/
def walScansUptoRow : OpenClaim := { program := "ytfhgdcljhncjmaadoor", sum := "6ffe704037274be1dbca5d50755ca1a9599309a1dd7d09ecf6577e1e30a7592f", func := "scriptor/scriptorlaw05.WalScans", spec := "walScans", inPlace := ["internal/abi.NoEscape", "internal/bytealg.MakeNoZero"], unfollowed := true, recurses := true, named := ["scriptor/crc.halves"], apart := false, laid := [("scriptor/crc.halves", laid_scriptor_crc_halves)], narrowed := true }
def WalScansUptoSaid : Prop := walScansUptoRow.holds Tryd.pinned (OpenSpec.upto walScansSpec)

/-- 'scriptorlaw05.WalCrashes', WHERE WHAT IT READS IS OF BULK AT MOST 1048576: true; the input reads as it did. -/
def walCrashesUptoRow : OpenClaim := { program := "ytfhgdcljhncjmaadoor", sum := "6ffe704037274be1dbca5d50755ca1a9599309a1dd7d09ecf6577e1e30a7592f", func := "scriptor/scriptorlaw05.WalCrashes", spec := "walCrashes", inPlace := ["internal/abi.NoEscape", "internal/bytealg.MakeNoZero"], unfollowed := true, recurses := true, named := ["scriptor/crc.halves"], apart := false, laid := [("scriptor/crc.halves", laid_scriptor_crc_halves)], narrowed := true }
def WalCrashesUptoSaid : Prop := walCrashesUptoRow.holds Tryd.pinned (OpenSpec.upto walCrashesSpec)

/-- 'scriptorlaw05.WalStale', WHERE WHAT IT READS IS OF BULK AT MOST 1048576: true; the input reads as it did. -/
def walStaleUptoRow : OpenClaim := { program := "ytfhgdcljhncjmaadoor", sum := "6ffe704037274be1dbca5d50755ca1a9599309a1dd7d09ecf6577e1e30a7592f", func := "scriptor/scriptorlaw05.WalStale", spec := "walStale", inPlace := ["internal/abi.NoEscape", "internal/bytealg.MakeNoZero"], unfollowed := true, recurses := true, named := ["scriptor/crc.halves"], apart := false, laid := [("scriptor/crc.halves", laid_scriptor_crc_halves)], narrowed := true }
def WalStaleUptoSaid : Prop := walStaleUptoRow.holds Tryd.pinned (OpenSpec.upto walStaleSpec)

/-- 'scriptorlaw05.WalPlaces', WHERE WHAT IT READS IS OF BULK AT MOST 1048576: true; the input reads as it did. -/
def walPlacesUptoRow : OpenClaim := { program := "ytfhgdcljhncjmaadoor", sum := "6ffe704037274be1dbca5d50755ca1a9599309a1dd7d09ecf6577e1e30a7592f", func := "scriptor/scriptorlaw05.WalPlaces", spec := "walPlaces", inPlace := ["internal/abi.NoEscape", "internal/bytealg.MakeNoZero"], unfollowed := true, recurses := true, named := ["scriptor/crc.halves"], apart := false, laid := [("scriptor/crc.halves", laid_scriptor_crc_halves)], narrowed := true }
def WalPlacesUptoSaid : Prop := walPlacesUptoRow.holds Tryd.pinned (OpenSpec.upto walPlacesSpec)

/-- 'scriptorlaw05.WalFull', WHERE WHAT IT READS IS OF BULK AT MOST 1048576: true; the input reads as it did. -/
def walFullUptoRow : OpenClaim := { program := "ytfhgdcljhncjmaadoor", sum := "6ffe704037274be1dbca5d50755ca1a9599309a1dd7d09ecf6577e1e30a7592f", func := "scriptor/scriptorlaw05.WalFull", spec := "walFull", inPlace := ["internal/abi.NoEscape", "internal/bytealg.MakeNoZero"], unfollowed := true, recurses := true, named := ["scriptor/crc.halves"], apart := false, laid := [("scriptor/crc.halves", laid_scriptor_crc_halves)], narrowed := true }
def WalFullUptoSaid : Prop := walFullUptoRow.holds Tryd.pinned (OpenSpec.upto walFullSpec)

/-- 'scriptorlaw05.WalRounds', WHERE WHAT IT READS IS OF BULK AT MOST 1048576: true; the input reads as it did. -/
def walRoundsUptoRow : OpenClaim := { program := "ytfhgdcljhncjmaadoor", sum := "6ffe704037274be1dbca5d50755ca1a9599309a1dd7d09ecf6577e1e30a7592f", func := "scriptor/scriptorlaw05.WalRounds", spec := "walRounds", inPlace := ["internal/abi.NoEscape", "internal/bytealg.MakeNoZero"], unfollowed := true, recurses := true, named := ["scriptor/crc.halves"], apart := false, laid := [("scriptor/crc.halves", laid_scriptor_crc_halves)], narrowed := true }
def WalRoundsUptoSaid : Prop := walRoundsUptoRow.holds Tryd.pinned (OpenSpec.upto walRoundsSpec)

end Rows
end Go.Proofs.YtfhgdcljhncjmaaDoor
