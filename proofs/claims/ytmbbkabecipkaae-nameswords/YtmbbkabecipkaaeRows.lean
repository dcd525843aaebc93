/-
  NARROWER THAN 'FOR EVERY INPUT', by the rows' own cells (each row's printed sentence says how): NamesUnits: loops · NamesFuncs: loops · NamesWords: loops.
  DERIVED. THE GIVEN ROWS OF THIS SEAT. 3 by the template 'for every input the law returns true; each argument reads behind the call as it read before'; 0 by the template 'total and deterministic' (their statements: YtmbbkabecipkaaeTotals.lean).
  GIVEN WITH THE SEED: the statements are not yours to turn. If you find one false, say at which input.
  Laid BY PROGRAM, IN A SANDBOX (cutbox-rows.mjs): the forced cells as the released guide's own fill.sh prints them over the translation d63a3b2a25d5dba8… (all of the seat's roots in one cut). By AI agents, Wed Nov 11 2026. No macro, syntax, notation, axiom, sorry.
-/
import Derived.Test.YtmbbkabecipkaaeChecked
import GoSem.Claim
import GoSem.ClaimJoined
import GoSem.ClaimMapViews
import Derived.JoinedTies
import Derived.KernelRfl
namespace Go.Proofs.Ytmbbkabecipkaae
/- THE CELL 'sum', in the pinned program and in every row, IS THE sha256 OF THE DUMP (.gsa) THAT YtmbbkabecipkaaeProg.lean LOADS. Nothing in Lean hashes anything: it is a label: what it is worth is what the hold of that sum in a sandbox is worth. -/
noncomputable def Try.pinned : Pinned := { name := "ytmbbkabecipkaae", sum := "d63a3b2a25d5dba8f9a8d84a6e9d73b4b5b473f974571edca3f4ecc8cf5ab2b1", checked := Try.checked }
namespace Rows
def none {H : Type} : Left H := { results := [], args := [] }

/-- 'barbicanlaw.NamesUnits': WHATEVER THE INPUT: true; the input reads as it did. -/
def namesUnitsSpec : ChangeSpec := { name := "namesUnits", fn := fun _ => fun
  | [d1, d2] => { results := [.lit (.bool true)], args := [d1, d2] }
  | _ => none }
def namesUnitsRow : OpenClaim := { program := "ytmbbkabecipkaae", sum := "d63a3b2a25d5dba8f9a8d84a6e9d73b4b5b473f974571edca3f4ecc8cf5ab2b1", func := "barbican/barbicanlaw.NamesUnits", spec := "namesUnits", unfollowed := true, recurses := true, loops := true, apart := false }
def NamesUnitsSaid : Prop := namesUnitsRow.holds Try.pinned (OpenSpec.ofChange namesUnitsSpec)

/-- ITS FALSE NEIGHBOUR: 'it returns false'. Refute it at one input. -/
def namesUnitsWrong : ChangeSpec := { name := "namesUnits", fn := fun _ => fun
  | [d1, d2] => { results := [.lit (.bool false)], args := [d1, d2] }
  | _ => none }
def NamesUnitsWrongFalsely : Prop := namesUnitsRow.holds Try.pinned (OpenSpec.ofChange namesUnitsWrong)

/-- 'barbicanlaw.NamesFuncs': WHATEVER THE INPUT: true; the input reads as it did. -/
def namesFuncsSpec : ChangeSpec := { name := "namesFuncs", fn := fun _ => fun
  | [d1, d2] => { results := [.lit (.bool true)], args := [d1, d2] }
  | _ => none }
def namesFuncsRow : OpenClaim := { program := "ytmbbkabecipkaae", sum := "d63a3b2a25d5dba8f9a8d84a6e9d73b4b5b473f974571edca3f4ecc8cf5ab2b1", func := "barbican/barbicanlaw.NamesFuncs", spec := "namesFuncs", unfollowed := true, recurses := true, loops := true, apart := false }
def NamesFuncsSaid : Prop := namesFuncsRow.holds Try.pinned (OpenSpec.ofChange namesFuncsSpec)

/-- ITS FALSE NEIGHBOUR: 'it returns false'. Refute it at one input. -/
def namesFuncsWrong : ChangeSpec := { name := "namesFuncs", fn := fun _ => fun
  | [d1, d2] => { results := [.lit (.bool false)], args := [d1, d2] }
  | _ => none }
def NamesFuncsWrongFalsely : Prop := namesFuncsRow.holds Try.pinned (OpenSpec.ofChange namesFuncsWrong)

/-- 'barbicanlaw.NamesWords': WHATEVER THE INPUT: true; the input reads as it did. -/
def namesWordsSpec : ChangeSpec := { name := "namesWords", fn := fun _ => fun
  | [d] => { results := [.lit (.bool true)], args := [d] }
  | _ => none }
def namesWordsRow : OpenClaim := { program := "ytmbbkabecipkaae", sum := "d63a3b2a25d5dba8f9a8d84a6e9d73b4b5b473f974571edca3f4ecc8cf5ab2b1", func := "barbican/barbicanlaw.NamesWords", spec := "namesWords", recurses := true, loops := true, apart := false }
def NamesWordsSaid : Prop := namesWordsRow.holds Try.pinned (OpenSpec.ofChange namesWordsSpec)

/-- ITS FALSE NEIGHBOUR: 'it returns false'. Refute it at one input. -/
def namesWordsWrong : ChangeSpec := { name := "namesWords", fn := fun _ => fun
  | [d] => { results := [.lit (.bool false)], args := [d] }
  | _ => none }
def NamesWordsWrongFalsely : Prop := namesWordsRow.holds Try.pinned (OpenSpec.ofChange namesWordsWrong)

/- THE SECOND FORM. 'bulk': how many values and letters a reading holds, each counted each time it is reached (what is shared counts as often as it is met; a slice's spare places count too). A statement '..UptoSaid' is the law's where the arguments, and the package variables that the reading takes, are together of bulk at most 1048576: NARROWER than '..Said'. Prove '..Said' where nothing that the law and all that it calls make is longer than what came in: it says more and counts as full. Else prove '..UptoSaid'. A law counts once. -/
mutual
def uptoBulk {H : Type} : DataW H → Nat
  | .lit (.string bytes) => bytes.length + 1
  | .lit _ => 1
  | .nil => 1
  | .ptr d => uptoBulk d + 1
  | .slice elems spare => uptoBulkAll elems + uptoBulkAll spare + 1
  | .agg parts => uptoBulkAll parts + 1
  | .iface _ d => uptoBulk d + 1
  | .map entries => uptoBulkEntries entries + 1
  | .held _ => 1
def uptoBulkAll {H : Type} : List (DataW H) → Nat
  | [] => 0
  | d :: r => uptoBulk d + uptoBulkAll r
def uptoBulkEntries {H : Type} : List (Lit × DataW H) → Nat
  | [] => 0
  | x :: r => uptoBulkEntry x + uptoBulkEntries r
def uptoBulkEntry {H : Type} : Lit × DataW H → Nat
  | (.string bytes, d) => bytes.length + uptoBulk d + 1
  | (_, d) => uptoBulk d + 1
 end
def uptoSmall : (H : Type) → List (DataW H) → Bool := fun _ ds => decide (uptoBulkAll ds ≤ 1048576)
def OpenSpec.upto (s : _root_.Go.ChangeSpec) : _root_.Go.OpenSpec := { _root_.Go.OpenSpec.ofChange s with cond := some uptoSmall }

/-- 'barbicanlaw.NamesUnits', WHERE WHAT IT READS IS OF BULK AT MOST 1048576: true; the input reads as it did. -/
def namesUnitsUptoRow : OpenClaim := { program := "ytmbbkabecipkaae", sum := "d63a3b2a25d5dba8f9a8d84a6e9d73b4b5b473f974571edca3f4ecc8cf5ab2b1", func := "barbican/barbicanlaw.NamesUnits", spec := "namesUnits", unfollowed := true, recurses := true, loops := true, apart := false, narrowed := true }
def NamesUnitsUptoSaid : Prop := namesUnitsUptoRow.holds Try.pinned (OpenSpec.upto namesUnitsSpec)

/-- 'barbicanlaw.NamesFuncs', WHERE WHAT IT READS IS OF BULK AT MOST 1048576: true; the input reads as it did. -/
def namesFuncsUptoRow : OpenClaim := { program := "ytmbbkabecipkaae", sum := "d63a3b2a25d5dba8f9a8d84a6e9d73b4b5b473f974571edca3f4ecc8cf5ab2b1", func := "barbican/barbicanlaw.NamesFuncs", spec := "namesFuncs", unfollowed := true, recurses := true, loops := true, apart := false, narrowed := true }
def NamesFuncsUptoSaid : Prop := namesFuncsUptoRow.holds Try.pinned (OpenSpec.upto namesFuncsSpec)

/-- 'barbicanlaw.NamesWords', WHERE WHAT IT READS IS OF BULK AT MOST 1048576: true; the input reads as it did. -/
def namesWordsUptoRow : OpenClaim := { program := "ytmbbkabecipkaae", sum := "d63a3b2a25d5dba8f9a8d84a6e9d73b4b5b473f974571edca3f4ecc8cf5ab2b1", func := "barbican/barbicanlaw.NamesWords", spec := "namesWords", recurses := true, loops := true, apart := false, narrowed := true }
def NamesWordsUptoSaid : Prop := namesWordsUptoRow.holds Try.pinned (OpenSpec.upto namesWordsSpec)

end Rows
end Go.Proofs.Ytmbbkabecipkaae
