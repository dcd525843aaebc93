/-
  DERIVED. GIVEN WITH THE SEED: THE CARDS: each row of YtmbbkabecipkaacDoorRows.lean that lists a variable, with what it lists TIED to the program's text (the seventh form; the later family's looks); each row that meets fmt, with fmt's text TOLD by the authors' own Lean function (tested against real Go, not proved from fmt's source: count such statements apart). THE CARD IS WHAT COUNTS. Prove the row's statement (the work); the ties are given (YtmbbkabecipkaacDoorTie.lean); close each card by the builder's one call (the guide's Derived/Test/ToyasCard.lean, 'card_holds'). Laid BY PROGRAM, IN A SANDBOX (cutbox-door.mjs). By AI agents, Wed Nov 11 2026. No macro, syntax, notation, axiom, sorry.
-/
import Derived.Test.YtmbbkabecipkaacDoorRows
import GoSem.ClaimSeven
namespace Go.Proofs.YtmbbkabecipkaacDoor
namespace Rows

/-- THE TIED CARD OF 'barbicankeep.StoresLoad'. -/
def storesLoadCard : Claim7 := { stood := { row := storesLoadRow, standIns := [], harness := (true, "9184df63d0e0042906ce6ac6a5dd3c1dc73bcaf265c75de620025ddef0086ff9"), looks := false }, kinds := [], alts := [], laidByText := true, laidKinds := [.data], laidTests := true, laidLooks := .later }
def StoresLoadCardSaid : Prop := Claim7.holds Tryd.pinned (.plain (OpenSpec.ofChange storesLoadSpec)) storesLoadCard

/-- THE TIED CARD OF 'barbicanlaw.MachRuns'. -/
def machRunsCard : Claim7 := { stood := { row := machRunsRow, standIns := [], harness := (true, "9184df63d0e0042906ce6ac6a5dd3c1dc73bcaf265c75de620025ddef0086ff9"), looks := false }, kinds := [], alts := [], laidByText := true, laidKinds := [.data], laidTests := true, laidLooks := .later }
def MachRunsCardSaid : Prop := Claim7.holds Tryd.pinned (.plain (OpenSpec.ofChange machRunsSpec)) machRunsCard

/-- THE TIED CARD OF 'barbicankeep.MachineDoes'. -/
def machineDoesCard : Claim7 := { stood := { row := machineDoesRow, standIns := [], harness := (true, "9184df63d0e0042906ce6ac6a5dd3c1dc73bcaf265c75de620025ddef0086ff9"), looks := false }, kinds := [], alts := [], laidByText := true, laidKinds := [.data], laidTests := true, laidLooks := .later }
def MachineDoesCardSaid : Prop := Claim7.holds Tryd.pinned (.plain (OpenSpec.ofChange machineDoesSpec)) machineDoesCard

/-- THE TIED CARD OF 'barbicankeep.MachineLoops'. -/
def machineLoopsCard : Claim7 := { stood := { row := machineLoopsRow, standIns := [], harness := (true, "9184df63d0e0042906ce6ac6a5dd3c1dc73bcaf265c75de620025ddef0086ff9"), looks := false }, kinds := [], alts := [], laidByText := true, laidKinds := [.data], laidTests := true, laidLooks := .later }
def MachineLoopsCardSaid : Prop := Claim7.holds Tryd.pinned (.plain (OpenSpec.ofChange machineLoopsSpec)) machineLoopsCard

/-- THE TIED CARD OF 'barbicankeep.MachineWalls'. -/
def machineWallsCard : Claim7 := { stood := { row := machineWallsRow, standIns := [], harness := (true, "9184df63d0e0042906ce6ac6a5dd3c1dc73bcaf265c75de620025ddef0086ff9"), looks := false }, kinds := [], alts := [], laidByText := true, laidKinds := [.data], laidTests := true, laidLooks := .later }
def MachineWallsCardSaid : Prop := Claim7.holds Tryd.pinned (.plain (OpenSpec.ofChange machineWallsSpec)) machineWallsCard

/-- THE SECOND FORM's CARD OF 'barbicankeep.StoresLoad'. -/
def storesLoadUptoCard : Claim7 := { stood := { row := storesLoadUptoRow, standIns := [], harness := (true, "9184df63d0e0042906ce6ac6a5dd3c1dc73bcaf265c75de620025ddef0086ff9"), looks := false }, kinds := [], alts := [], laidByText := true, laidKinds := [.data], laidTests := true, laidLooks := .later }
def StoresLoadUptoCardSaid : Prop := Claim7.holds Tryd.pinned (.plain (OpenSpec.upto storesLoadSpec)) storesLoadUptoCard

/-- THE SECOND FORM's CARD OF 'barbicanlaw.MachRuns'. -/
def machRunsUptoCard : Claim7 := { stood := { row := machRunsUptoRow, standIns := [], harness := (true, "9184df63d0e0042906ce6ac6a5dd3c1dc73bcaf265c75de620025ddef0086ff9"), looks := false }, kinds := [], alts := [], laidByText := true, laidKinds := [.data], laidTests := true, laidLooks := .later }
def MachRunsUptoCardSaid : Prop := Claim7.holds Tryd.pinned (.plain (OpenSpec.upto machRunsSpec)) machRunsUptoCard

/-- THE SECOND FORM's CARD OF 'barbicankeep.MachineDoes'. -/
def machineDoesUptoCard : Claim7 := { stood := { row := machineDoesUptoRow, standIns := [], harness := (true, "9184df63d0e0042906ce6ac6a5dd3c1dc73bcaf265c75de620025ddef0086ff9"), looks := false }, kinds := [], alts := [], laidByText := true, laidKinds := [.data], laidTests := true, laidLooks := .later }
def MachineDoesUptoCardSaid : Prop := Claim7.holds Tryd.pinned (.plain (OpenSpec.upto machineDoesSpec)) machineDoesUptoCard

/-- THE SECOND FORM's CARD OF 'barbicankeep.MachineLoops'. -/
def machineLoopsUptoCard : Claim7 := { stood := { row := machineLoopsUptoRow, standIns := [], harness := (true, "9184df63d0e0042906ce6ac6a5dd3c1dc73bcaf265c75de620025ddef0086ff9"), looks := false }, kinds := [], alts := [], laidByText := true, laidKinds := [.data], laidTests := true, laidLooks := .later }
def MachineLoopsUptoCardSaid : Prop := Claim7.holds Tryd.pinned (.plain (OpenSpec.upto machineLoopsSpec)) machineLoopsUptoCard

/-- THE SECOND FORM's CARD OF 'barbicankeep.MachineWalls'. -/
def machineWallsUptoCard : Claim7 := { stood := { row := machineWallsUptoRow, standIns := [], harness := (true, "9184df63d0e0042906ce6ac6a5dd3c1dc73bcaf265c75de620025ddef0086ff9"), looks := false }, kinds := [], alts := [], laidByText := true, laidKinds := [.data], laidTests := true, laidLooks := .later }
def MachineWallsUptoCardSaid : Prop := Claim7.holds Tryd.pinned (.plain (OpenSpec.upto machineWallsSpec)) machineWallsUptoCard
end Rows
end Go.Proofs.YtmbbkabecipkaacDoor
