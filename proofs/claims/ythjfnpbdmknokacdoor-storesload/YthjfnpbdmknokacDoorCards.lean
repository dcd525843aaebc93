/-
  DERIVED. GIVEN WITH THE SEED: THE CARDS: each row of YthjfnpbdmknokacDoorRows.lean that lists a variable, with what it lists TIED to the program's text (the seventh form; the later family's looks); each row that meets fmt, with fmt's text TOLD by the authors' own Lean function (tested against real Go, not proved from fmt's source: count such statements apart). THE CARD IS WHAT COUNTS. Prove the row's statement (the work); the ties are given (YthjfnpbdmknokacDoorTie.lean); close each card by the builder's one call (the guide's Derived/Test/ToyasCard.lean, 'card_holds'). Laid BY PROGRAM, IN A SANDBOX (cutbox-door.mjs). By AI agents, Wed Nov 11 2026. No macro, syntax, notation, axiom, sorry.
-/
import Derived.Test.YthjfnpbdmknokacDoorRows
import GoSem.ClaimSeven
namespace Go.Proofs.YthjfnpbdmknokacDoor
namespace Rows

/-- THE TIED CARD OF 'barbicankeep.StoresLoad'. -/
def storesLoadCard : Claim7 := { stood := { row := storesLoadRow, standIns := [], harness := (true, "469e0343b03f3ebcbcb0a93d54b46933c810a5636e4699d93847b2fea6949379"), looks := false }, kinds := [], alts := [], laidByText := true, laidKinds := [.data], laidTests := true, laidLooks := .later }
def StoresLoadCardSaid : Prop := Claim7.holds Tryd.pinned (.plain (OpenSpec.ofChange storesLoadSpec)) storesLoadCard

/-- THE SECOND FORM's CARD OF 'barbicankeep.StoresLoad'. -/
def storesLoadUptoCard : Claim7 := { stood := { row := storesLoadUptoRow, standIns := [], harness := (true, "469e0343b03f3ebcbcb0a93d54b46933c810a5636e4699d93847b2fea6949379"), looks := false }, kinds := [], alts := [], laidByText := true, laidKinds := [.data], laidTests := true, laidLooks := .later }
def StoresLoadUptoCardSaid : Prop := Claim7.holds Tryd.pinned (.plain (OpenSpec.upto storesLoadSpec)) storesLoadUptoCard
end Rows
end Go.Proofs.YthjfnpbdmknokacDoor
