/-
  DERIVED. GIVEN WITH THE SEED: THE CARDS: each row of YthjfnpbdmknokabDoorRows.lean that lists a variable, with what it lists TIED to the program's text (the seventh form; the later family's looks); each row that meets fmt, with fmt's text TOLD by the authors' own Lean function (tested against real Go, not proved from fmt's source: count such statements apart). THE CARD IS WHAT COUNTS. Prove the row's statement (the work); the ties are given (YthjfnpbdmknokabDoorTie.lean); close each card by the builder's one call (the guide's Derived/Test/ToyasCard.lean, 'card_holds'). Laid BY PROGRAM, IN A SANDBOX (cutbox-door.mjs). By AI agents, Wed Nov 11 2026. No macro, syntax, notation, axiom, sorry.
-/
import Derived.Test.YthjfnpbdmknokabDoorRows
import GoSem.ClaimSeven
namespace Go.Proofs.YthjfnpbdmknokabDoor
namespace Rows

/-- THE TIED CARD OF 'barbicankeep.CodeBack'. -/
def codeBackCard : Claim7 := { stood := { row := codeBackRow, standIns := [], harness := (true, "81c76ff6fdf569a4b29dcad857822e0f4179bc4b15f98919ad32b53ee7133fe6"), looks := false }, kinds := [], alts := [], laidByText := true, laidKinds := [.data], laidTests := true, laidLooks := .later }
def CodeBackCardSaid : Prop := Claim7.holds Tryd.pinned (.plain (OpenSpec.ofChange codeBackSpec)) codeBackCard

/-- THE TIED CARD OF 'barbicanlaw.MemChecks'. -/
def memChecksCard : Claim7 := { stood := { row := memChecksRow, standIns := [], harness := (true, "81c76ff6fdf569a4b29dcad857822e0f4179bc4b15f98919ad32b53ee7133fe6"), looks := false }, kinds := [], alts := [], laidByText := true, laidKinds := [.data], laidTests := true, laidLooks := .later }
def MemChecksCardSaid : Prop := Claim7.holds Tryd.pinned (.plain (OpenSpec.ofChange memChecksSpec)) memChecksCard

/-- THE TIED CARD OF 'barbicanlaw.MemData'. -/
def memDataCard : Claim7 := { stood := { row := memDataRow, standIns := [], harness := (true, "81c76ff6fdf569a4b29dcad857822e0f4179bc4b15f98919ad32b53ee7133fe6"), looks := false }, kinds := [], alts := [], laidByText := true, laidKinds := [.data], laidTests := true, laidLooks := .later }
def MemDataCardSaid : Prop := Claim7.holds Tryd.pinned (.plain (OpenSpec.ofChange memDataSpec)) memDataCard

/-- THE TIED CARD OF 'barbicanlaw.MemLoads'. -/
def memLoadsCard : Claim7 := { stood := { row := memLoadsRow, standIns := [], harness := (true, "81c76ff6fdf569a4b29dcad857822e0f4179bc4b15f98919ad32b53ee7133fe6"), looks := false }, kinds := [], alts := [], laidByText := true, laidKinds := [.data], laidTests := true, laidLooks := .later }
def MemLoadsCardSaid : Prop := Claim7.holds Tryd.pinned (.plain (OpenSpec.ofChange memLoadsSpec)) memLoadsCard

/-- THE TIED CARD OF 'barbicanlaw.MemStores'. -/
def memStoresCard : Claim7 := { stood := { row := memStoresRow, standIns := [], harness := (true, "81c76ff6fdf569a4b29dcad857822e0f4179bc4b15f98919ad32b53ee7133fe6"), looks := false }, kinds := [], alts := [], laidByText := true, laidKinds := [.data], laidTests := true, laidLooks := .later }
def MemStoresCardSaid : Prop := Claim7.holds Tryd.pinned (.plain (OpenSpec.ofChange memStoresSpec)) memStoresCard

/-- THE SECOND FORM's CARD OF 'barbicankeep.CodeBack'. -/
def codeBackUptoCard : Claim7 := { stood := { row := codeBackUptoRow, standIns := [], harness := (true, "81c76ff6fdf569a4b29dcad857822e0f4179bc4b15f98919ad32b53ee7133fe6"), looks := false }, kinds := [], alts := [], laidByText := true, laidKinds := [.data], laidTests := true, laidLooks := .later }
def CodeBackUptoCardSaid : Prop := Claim7.holds Tryd.pinned (.plain (OpenSpec.upto codeBackSpec)) codeBackUptoCard

/-- THE SECOND FORM's CARD OF 'barbicanlaw.MemChecks'. -/
def memChecksUptoCard : Claim7 := { stood := { row := memChecksUptoRow, standIns := [], harness := (true, "81c76ff6fdf569a4b29dcad857822e0f4179bc4b15f98919ad32b53ee7133fe6"), looks := false }, kinds := [], alts := [], laidByText := true, laidKinds := [.data], laidTests := true, laidLooks := .later }
def MemChecksUptoCardSaid : Prop := Claim7.holds Tryd.pinned (.plain (OpenSpec.upto memChecksSpec)) memChecksUptoCard

/-- THE SECOND FORM's CARD OF 'barbicanlaw.MemData'. -/
def memDataUptoCard : Claim7 := { stood := { row := memDataUptoRow, standIns := [], harness := (true, "81c76ff6fdf569a4b29dcad857822e0f4179bc4b15f98919ad32b53ee7133fe6"), looks := false }, kinds := [], alts := [], laidByText := true, laidKinds := [.data], laidTests := true, laidLooks := .later }
def MemDataUptoCardSaid : Prop := Claim7.holds Tryd.pinned (.plain (OpenSpec.upto memDataSpec)) memDataUptoCard

/-- THE SECOND FORM's CARD OF 'barbicanlaw.MemLoads'. -/
def memLoadsUptoCard : Claim7 := { stood := { row := memLoadsUptoRow, standIns := [], harness := (true, "81c76ff6fdf569a4b29dcad857822e0f4179bc4b15f98919ad32b53ee7133fe6"), looks := false }, kinds := [], alts := [], laidByText := true, laidKinds := [.data], laidTests := true, laidLooks := .later }
def MemLoadsUptoCardSaid : Prop := Claim7.holds Tryd.pinned (.plain (OpenSpec.upto memLoadsSpec)) memLoadsUptoCard

/-- THE SECOND FORM's CARD OF 'barbicanlaw.MemStores'. -/
def memStoresUptoCard : Claim7 := { stood := { row := memStoresUptoRow, standIns := [], harness := (true, "81c76ff6fdf569a4b29dcad857822e0f4179bc4b15f98919ad32b53ee7133fe6"), looks := false }, kinds := [], alts := [], laidByText := true, laidKinds := [.data], laidTests := true, laidLooks := .later }
def MemStoresUptoCardSaid : Prop := Claim7.holds Tryd.pinned (.plain (OpenSpec.upto memStoresSpec)) memStoresUptoCard
end Rows
end Go.Proofs.YthjfnpbdmknokabDoor
