/-
  DERIVED. GIVEN WITH THE SEED: THE CARDS: each row of YtgjemlhnlpglbaaDoorRows.lean that lists a variable, with what it lists TIED to the program's text (the seventh form; the later family's looks); each row that meets fmt, with fmt's text TOLD by the authors' own Lean function (tested against real Go, not proved from fmt's source: count such statements apart). THE CARD IS WHAT COUNTS. Prove the row's statement (the work); the ties are given (YtgjemlhnlpglbaaDoorTie.lean); close each card by the builder's one call (the guide's Derived/Test/ToyasCard.lean, 'card_holds'). Laid BY PROGRAM, IN A SANDBOX (cutbox-door.mjs). By AI agents, Wed Nov 11 2026. No macro, syntax, notation, axiom, sorry.
-/
import Derived.Test.YtgjemlhnlpglbaaDoorRows
import GoSem.ClaimSeven
namespace Go.Proofs.YtgjemlhnlpglbaaDoor
namespace Rows

/-- THE TIED CARD OF 'barbicankeep.ProgramsGood'. -/
def programsGoodCard : Claim7 := { stood := { row := programsGoodRow, standIns := [], harness := (true, "0161d71ab5094fae17c8bee0f086b8e38f7132f82b3d8a40b01892bc3620545d"), looks := true }, kinds := [], alts := [], laidByText := true, laidKinds := [.data], laidTests := true, laidLooks := .later }
def ProgramsGoodCardSaid : Prop := Claim7.holds Tryd.pinned (.plain (OpenSpec.ofChange programsGoodSpec)) programsGoodCard

/-- THE TIED CARD OF 'barbicankeep.CallsAlone'. -/
def callsAloneCard : Claim7 := { stood := { row := callsAloneRow, standIns := [], harness := (true, "0161d71ab5094fae17c8bee0f086b8e38f7132f82b3d8a40b01892bc3620545d"), looks := true }, kinds := [], alts := [], laidByText := true, laidKinds := [.data], laidTests := true, laidLooks := .later }
def CallsAloneCardSaid : Prop := Claim7.holds Tryd.pinned (.plain (OpenSpec.ofChange callsAloneSpec)) callsAloneCard

/-- THE TIED CARD OF 'barbicankeep.CallsKeep'. -/
def callsKeepCard : Claim7 := { stood := { row := callsKeepRow, standIns := [], harness := (true, "0161d71ab5094fae17c8bee0f086b8e38f7132f82b3d8a40b01892bc3620545d"), looks := true }, kinds := [], alts := [], laidByText := true, laidKinds := [.data], laidTests := true, laidLooks := .later }
def CallsKeepCardSaid : Prop := Claim7.holds Tryd.pinned (.plain (OpenSpec.ofChange callsKeepSpec)) callsKeepCard

/-- THE SECOND FORM's CARD OF 'barbicankeep.ProgramsGood'. -/
def programsGoodUptoCard : Claim7 := { stood := { row := programsGoodUptoRow, standIns := [], harness := (true, "0161d71ab5094fae17c8bee0f086b8e38f7132f82b3d8a40b01892bc3620545d"), looks := true }, kinds := [], alts := [], laidByText := true, laidKinds := [.data], laidTests := true, laidLooks := .later }
def ProgramsGoodUptoCardSaid : Prop := Claim7.holds Tryd.pinned (.plain (OpenSpec.upto programsGoodSpec)) programsGoodUptoCard

/-- THE SECOND FORM's CARD OF 'barbicankeep.CallsAlone'. -/
def callsAloneUptoCard : Claim7 := { stood := { row := callsAloneUptoRow, standIns := [], harness := (true, "0161d71ab5094fae17c8bee0f086b8e38f7132f82b3d8a40b01892bc3620545d"), looks := true }, kinds := [], alts := [], laidByText := true, laidKinds := [.data], laidTests := true, laidLooks := .later }
def CallsAloneUptoCardSaid : Prop := Claim7.holds Tryd.pinned (.plain (OpenSpec.upto callsAloneSpec)) callsAloneUptoCard

/-- THE SECOND FORM's CARD OF 'barbicankeep.CallsKeep'. -/
def callsKeepUptoCard : Claim7 := { stood := { row := callsKeepUptoRow, standIns := [], harness := (true, "0161d71ab5094fae17c8bee0f086b8e38f7132f82b3d8a40b01892bc3620545d"), looks := true }, kinds := [], alts := [], laidByText := true, laidKinds := [.data], laidTests := true, laidLooks := .later }
def CallsKeepUptoCardSaid : Prop := Claim7.holds Tryd.pinned (.plain (OpenSpec.upto callsKeepSpec)) callsKeepUptoCard
end Rows
end Go.Proofs.YtgjemlhnlpglbaaDoor
