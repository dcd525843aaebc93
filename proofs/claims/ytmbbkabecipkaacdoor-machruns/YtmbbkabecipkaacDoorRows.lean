/-
  NARROWER THAN 'FOR EVERY INPUT', by the rows' own cells (each row's printed sentence says how): StoresLoad: laid · MachRuns: laid · MachineDoes: laid · MachineLoops: laid · MachineWalls: laid.
  DERIVED. THE GIVEN ROWS OF THIS SEAT. 5 by the template 'for every input the law returns true; each argument reads behind the call as it read before'; 0 by the template 'total and deterministic' (their statements: YtmbbkabecipkaacDoorTotals.lean).
  GIVEN WITH THE SEED: the statements are not yours to turn. If you find one false, say at which input.
  Laid BY PROGRAM, IN A SANDBOX (cutbox-rows.mjs): the forced cells as the released guide's own fill.sh prints them over the translation 2ae0fc78ce3cddfb… (all of the seat's roots in one cut). By AI agents, Wed Nov 11 2026. No macro, syntax, notation, axiom, sorry.
-/
import Derived.Test.YtmbbkabecipkaacDoorChecked
import GoSem.Claim
import GoSem.ClaimJoined
import GoSem.ClaimMapViews
import Derived.JoinedTies
import Derived.KernelRfl
namespace Go.Proofs.YtmbbkabecipkaacDoor
/- THE CELL 'sum', in the pinned program and in every row, IS THE sha256 OF THE DUMP (.gsa) THAT YtmbbkabecipkaacDoorProg.lean LOADS. Nothing in Lean hashes anything: it is a label: what it is worth is what the hold of that sum in a sandbox is worth. -/
noncomputable def Tryd.pinned : Pinned := { name := "ytmbbkabecipkaacdoor", sum := "2ae0fc78ce3cddfba2d8e3946153ab8983af78dd1cc73ec29d04347512fa3341", checked := Tryd.checked }
namespace Rows
def none {H : Type} : Left H := { results := [], args := [] }

/- WHAT THE LISTED PACKAGE-LEVEL VARIABLES READ AS WHEN THE CALL BEGINS. Each datum BY PROGRAM (the guide's laid-datum.mjs) off the statement by which the dump's own 'gosem.cut.vars' lays the variable. In a bare row this is a premise. The card (YtmbbkabecipkaacDoorCards.lean) ties it to the program's text. -/
def laid_barbican_code_bounds {H : Type} : DataW H := .agg [.agg [.lit (.int .i64 0), .lit (.int .i64 0), .lit (.int .i64 0), .lit (.int .i64 0)], .agg [.lit (.int .i64 0), .lit (.int .i64 65535), .lit (.int .i64 0), .lit (.int .i64 0)], .agg [.lit (.int .i64 0), .lit (.int .i64 0), .lit (.int .i64 0), .lit (.int .i64 0)], .agg [.lit (.int .i64 0), .lit (.int .i64 0), .lit (.int .i64 0), .lit (.int .i64 0)], .agg [.lit (.int .i64 0), .lit (.int .i64 7), .lit (.int .i64 0), .lit (.int .i64 0)], .agg [.lit (.int .i64 0), .lit (.int .i64 7), .lit (.int .i64 0), .lit (.int .i64 0)], .agg [.lit (.int .i64 0), .lit (.int .i64 0), .lit (.int .i64 0), .lit (.int .i64 0)], .agg [.lit (.int .i64 0), .lit (.int .i64 0), .lit (.int .i64 0), .lit (.int .i64 0)], .agg [.lit (.int .i64 1), .lit (.int .i64 10), .lit (.int .i64 0), .lit (.int .i64 0)], .agg [.lit (.int .i64 0), .lit (.int .i64 1199), .lit (.int .i64 0), .lit (.int .i64 0)], .agg [.lit (.int .i64 0), .lit (.int .i64 1199), .lit (.int .i64 0), .lit (.int .i64 0)], .agg [.lit (.int .i64 0), .lit (.int .i64 1199), .lit (.int .i64 4), .lit (.int .i64 0)], .agg [.lit (.int .i64 0), .lit (.int .i64 4), .lit (.int .i64 7), .lit (.int .i64 4)], .agg [.lit (.int .i64 0), .lit (.int .i64 0), .lit (.int .i64 0), .lit (.int .i64 0)], .agg [.lit (.int .i64 0), .lit (.int .i64 0), .lit (.int .i64 0), .lit (.int .i64 0)], .agg [.lit (.int .i64 0), .lit (.int .i64 0), .lit (.int .i64 0), .lit (.int .i64 0)]]

/-- 'barbicankeep.StoresLoad': WHATEVER THE INPUT: true; the input reads as it did. -/
def storesLoadSpec : ChangeSpec := { name := "storesLoad", fn := fun _ => fun
  | [d1, d2, d3] => { results := [.lit (.bool true)], args := [d1, d2, d3] }
  | _ => none }
def storesLoadRow : OpenClaim := { program := "ytmbbkabecipkaacdoor", sum := "2ae0fc78ce3cddfba2d8e3946153ab8983af78dd1cc73ec29d04347512fa3341", func := "barbican/barbicankeep.StoresLoad", spec := "storesLoad", unfollowed := true, recurses := true, named := ["barbican/code.bounds"], apart := false, laid := [("barbican/code.bounds", laid_barbican_code_bounds)] }
def StoresLoadSaid : Prop := storesLoadRow.holds Tryd.pinned (OpenSpec.ofChange storesLoadSpec)

/-- ITS FALSE NEIGHBOUR: 'it returns false'. Refute it at one input. -/
def storesLoadWrong : ChangeSpec := { name := "storesLoad", fn := fun _ => fun
  | [d1, d2, d3] => { results := [.lit (.bool false)], args := [d1, d2, d3] }
  | _ => none }
def StoresLoadWrongFalsely : Prop := storesLoadRow.holds Tryd.pinned (OpenSpec.ofChange storesLoadWrong)

/-- 'barbicanlaw.MachRuns': WHATEVER THE INPUT: true; the input reads as it did. -/
def machRunsSpec : ChangeSpec := { name := "machRuns", fn := fun _ => fun
  | [d1, d2, d3, d4, d5, d6] => { results := [.lit (.bool true)], args := [d1, d2, d3, d4, d5, d6] }
  | _ => none }
def machRunsRow : OpenClaim := { program := "ytmbbkabecipkaacdoor", sum := "2ae0fc78ce3cddfba2d8e3946153ab8983af78dd1cc73ec29d04347512fa3341", func := "barbican/barbicanlaw.MachRuns", spec := "machRuns", unfollowed := true, recurses := true, named := ["barbican/code.bounds"], apart := false, laid := [("barbican/code.bounds", laid_barbican_code_bounds)] }
def MachRunsSaid : Prop := machRunsRow.holds Tryd.pinned (OpenSpec.ofChange machRunsSpec)

/-- ITS FALSE NEIGHBOUR: 'it returns false'. Refute it at one input. -/
def machRunsWrong : ChangeSpec := { name := "machRuns", fn := fun _ => fun
  | [d1, d2, d3, d4, d5, d6] => { results := [.lit (.bool false)], args := [d1, d2, d3, d4, d5, d6] }
  | _ => none }
def MachRunsWrongFalsely : Prop := machRunsRow.holds Tryd.pinned (OpenSpec.ofChange machRunsWrong)

/-- 'barbicankeep.MachineDoes': WHATEVER THE INPUT: true; the input reads as it did. -/
def machineDoesSpec : ChangeSpec := { name := "machineDoes", fn := fun _ => fun
  | [d1, d2, d3] => { results := [.lit (.bool true)], args := [d1, d2, d3] }
  | _ => none }
def machineDoesRow : OpenClaim := { program := "ytmbbkabecipkaacdoor", sum := "2ae0fc78ce3cddfba2d8e3946153ab8983af78dd1cc73ec29d04347512fa3341", func := "barbican/barbicankeep.MachineDoes", spec := "machineDoes", unfollowed := true, recurses := true, named := ["barbican/code.bounds"], apart := false, laid := [("barbican/code.bounds", laid_barbican_code_bounds)] }
def MachineDoesSaid : Prop := machineDoesRow.holds Tryd.pinned (OpenSpec.ofChange machineDoesSpec)

/-- ITS FALSE NEIGHBOUR: 'it returns false'. Refute it at one input. -/
def machineDoesWrong : ChangeSpec := { name := "machineDoes", fn := fun _ => fun
  | [d1, d2, d3] => { results := [.lit (.bool false)], args := [d1, d2, d3] }
  | _ => none }
def MachineDoesWrongFalsely : Prop := machineDoesRow.holds Tryd.pinned (OpenSpec.ofChange machineDoesWrong)

/-- 'barbicankeep.MachineLoops': WHATEVER THE INPUT: true; the input reads as it did. -/
def machineLoopsSpec : ChangeSpec := { name := "machineLoops", fn := fun _ => fun
  | [d1, d2] => { results := [.lit (.bool true)], args := [d1, d2] }
  | _ => none }
def machineLoopsRow : OpenClaim := { program := "ytmbbkabecipkaacdoor", sum := "2ae0fc78ce3cddfba2d8e3946153ab8983af78dd1cc73ec29d04347512fa3341", func := "barbican/barbicankeep.MachineLoops", spec := "machineLoops", unfollowed := true, recurses := true, named := ["barbican/code.bounds"], apart := false, laid := [("barbican/code.bounds", laid_barbican_code_bounds)] }
def MachineLoopsSaid : Prop := machineLoopsRow.holds Tryd.pinned (OpenSpec.ofChange machineLoopsSpec)

/-- ITS FALSE NEIGHBOUR: 'it returns false'. Refute it at one input. -/
def machineLoopsWrong : ChangeSpec := { name := "machineLoops", fn := fun _ => fun
  | [d1, d2] => { results := [.lit (.bool false)], args := [d1, d2] }
  | _ => none }
def MachineLoopsWrongFalsely : Prop := machineLoopsRow.holds Tryd.pinned (OpenSpec.ofChange machineLoopsWrong)

/-- 'barbicankeep.MachineWalls': WHATEVER THE INPUT: true; the input reads as it did. -/
def machineWallsSpec : ChangeSpec := { name := "machineWalls", fn := fun _ => fun
  | [d1, d2] => { results := [.lit (.bool true)], args := [d1, d2] }
  | _ => none }
def machineWallsRow : OpenClaim := { program := "ytmbbkabecipkaacdoor", sum := "2ae0fc78ce3cddfba2d8e3946153ab8983af78dd1cc73ec29d04347512fa3341", func := "barbican/barbicankeep.MachineWalls", spec := "machineWalls", unfollowed := true, recurses := true, named := ["barbican/code.bounds"], apart := false, laid := [("barbican/code.bounds", laid_barbican_code_bounds)] }
def MachineWallsSaid : Prop := machineWallsRow.holds Tryd.pinned (OpenSpec.ofChange machineWallsSpec)

/-- ITS FALSE NEIGHBOUR: 'it returns false'. Refute it at one input. -/
def machineWallsWrong : ChangeSpec := { name := "machineWalls", fn := fun _ => fun
  | [d1, d2] => { results := [.lit (.bool false)], args := [d1, d2] }
  | _ => none }
def MachineWallsWrongFalsely : Prop := machineWallsRow.holds Tryd.pinned (OpenSpec.ofChange machineWallsWrong)

/- THE SECOND FORM. 'bulk': how many values and letters a reading holds, each counted each time it is reached (what is shared counts as often as it is met; a slice's spare places count too). A statement '..UptoSaid' is the law's where the arguments, and the package variables that the reading takes, are together of bulk at most 1048576: NARROWER than '..Said'. Prove '..Said' where nothing that the law and all that it calls make is longer than what came in: it says more and counts as full. Else prove '..UptoSaid'. A law counts once. -/
mutual
def uptoBulk {H : Type} : DataW H → Nat
  | .lit (.string bytes) => bytes.length + 1
  | .lit _ => 1
  | .nil => 1
  | .ptr d => uptoBulk d + 1
  | .slice elems spare => uptoBulkAll elems + uptoBulkAll spare + 1
  | .agg parts => uptoBulkAll parts + 1
  | .iface _ d => uptoBulk d + 1
  | .map entries => uptoBulkEntries entries + 1
  | .held _ => 1
def uptoBulkAll {H : Type} : List (DataW H) → Nat
  | [] => 0
  | d :: r => uptoBulk d + uptoBulkAll r
def uptoBulkEntries {H : Type} : List (Lit × DataW H) → Nat
  | [] => 0
  | x :: r => uptoBulkEntry x + uptoBulkEntries r
def uptoBulkEntry {H : Type} : Lit × DataW H → Nat
  | (.string bytes, d) => bytes.length + uptoBulk d + 1
  | (_, d) => uptoBulk d + 1
 end
def uptoSmall : (H : Type) → List (DataW H) → Bool := fun _ ds => decide (uptoBulkAll ds ≤ 1048576)
def OpenSpec.upto (s : _root_.Go.ChangeSpec) : _root_.Go.OpenSpec := { _root_.Go.OpenSpec.ofChange s with cond := some uptoSmall }

/-- 'barbicankeep.StoresLoad', WHERE WHAT IT READS IS OF BULK AT MOST 1048576: true; the input reads as it did. -/
def storesLoadUptoRow : OpenClaim := { program := "ytmbbkabecipkaacdoor", sum := "2ae0fc78ce3cddfba2d8e3946153ab8983af78dd1cc73ec29d04347512fa3341", func := "barbican/barbicankeep.StoresLoad", spec := "storesLoad", unfollowed := true, recurses := true, named := ["barbican/code.bounds"], apart := false, laid := [("barbican/code.bounds", laid_barbican_code_bounds)], narrowed := true }
def StoresLoadUptoSaid : Prop := storesLoadUptoRow.holds Tryd.pinned (OpenSpec.upto storesLoadSpec)

/-- 'barbicanlaw.MachRuns', WHERE WHAT IT READS IS OF BULK AT MOST 1048576: true; the input reads as it did. -/
def machRunsUptoRow : OpenClaim := { program := "ytmbbkabecipkaacdoor", sum := "2ae0fc78ce3cddfba2d8e3946153ab8983af78dd1cc73ec29d04347512fa3341", func := "barbican/barbicanlaw.MachRuns", spec := "machRuns", unfollowed := true, recurses := true, named := ["barbican/code.bounds"], apart := false, laid := [("barbican/code.bounds", laid_barbican_code_bounds)], narrowed := true }
def MachRunsUptoSaid : Prop := machRunsUptoRow.holds Tryd.pinned (OpenSpec.upto machRunsSpec)

/-- 'barbicankeep.MachineDoes', WHERE WHAT IT READS IS OF BULK AT MOST 1048576: true; the input reads as it did. -/
def machineDoesUptoRow : OpenClaim := { program := "ytmbbkabecipkaacdoor", sum := "2ae0fc78ce3cddfba2d8e3946153ab8983af78dd1cc73ec29d04347512fa3341", func := "barbican/barbicankeep.MachineDoes", spec := "machineDoes", unfollowed := true, recurses := true, named := ["barbican/code.bounds"], apart := false, laid := [("barbican/code.bounds", laid_barbican_code_bounds)], narrowed := true }
def MachineDoesUptoSaid : Prop := machineDoesUptoRow.holds Tryd.pinned (OpenSpec.upto machineDoesSpec)

/-- 'barbicankeep.MachineLoops', WHERE WHAT IT READS IS OF BULK AT MOST 1048576: true; the input reads as it did. -/
def machineLoopsUptoRow : OpenClaim := { program := "ytmbbkabecipkaacdoor", sum := "2ae0fc78ce3cddfba2d8e3946153ab8983af78dd1cc73ec29d04347512fa3341", func := "barbican/barbicankeep.MachineLoops", spec := "machineLoops", unfollowed := true, recurses := true, named := ["barbican/code.bounds"], apart := false, laid := [("barbican/code.bounds", laid_barbican_code_bounds)], narrowed := true }
def MachineLoopsUptoSaid : Prop := machineLoopsUptoRow.holds Tryd.pinned (OpenSpec.upto machineLoopsSpec)

/-- 'barbicankeep.MachineWalls', WHERE WHAT IT READS IS OF BULK AT MOST 1048576: true; the input reads as it did. -/
def machineWallsUptoRow : OpenClaim := { program := "ytmbbkabecipkaacdoor", sum := "2ae0fc78ce3cddfba2d8e3946153ab8983af78dd1cc73ec29d04347512fa3341", func := "barbican/barbicankeep.MachineWalls", spec := "machineWalls", unfollowed := true, recurses := true, named := ["barbican/code.bounds"], apart := false, laid := [("barbican/code.bounds", laid_barbican_code_bounds)], narrowed := true }
def MachineWallsUptoSaid : Prop := machineWallsUptoRow.holds Tryd.pinned (OpenSpec.upto machineWallsSpec)

end Rows
end Go.Proofs.YtmbbkabecipkaacDoor
