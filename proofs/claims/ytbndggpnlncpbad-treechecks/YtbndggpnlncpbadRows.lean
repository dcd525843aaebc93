/-
  NARROWER THAN 'FOR EVERY INPUT', by the rows' own cells (each row's printed sentence says how): TreeChecks: loops.
  DERIVED. THE GIVEN ROWS OF THIS SEAT. 5 by the template 'for every input the law returns true; each argument reads behind the call as it read before'; 0 by the template 'total and deterministic' (their statements: YtbndggpnlncpbadTotals.lean).
  GIVEN WITH THE SEED: the statements are not yours to turn. If you find one false, say at which input.
  Laid BY PROGRAM, IN A SANDBOX (cutbox-rows.mjs): the forced cells as the released guide's own fill.sh prints them over the translation ddfe052ec916926e… (all of the seat's roots in one cut). By AI agents, Wed Nov 11 2026. No macro, syntax, notation, axiom, sorry.
-/
import Derived.Test.YtbndggpnlncpbadChecked
import GoSem.Claim
import GoSem.ClaimJoined
import GoSem.ClaimMapViews
import Derived.JoinedTies
import Derived.KernelRfl
namespace Go.Proofs.Ytbndggpnlncpbad
/- THE CELL 'sum', in the pinned program and in every row, IS THE sha256 OF THE DUMP (.gsa) THAT YtbndggpnlncpbadProg.lean LOADS. Nothing in Lean hashes anything: it is a label: what it is worth is what the hold of that sum in a sandbox is worth. -/
noncomputable def Try.pinned : Pinned := { name := "ytbndggpnlncpbad", sum := "ddfe052ec916926e7c82e82d0fb2038b35d779d96fe471a4d2140a0db9f78e95", checked := Try.checked }
namespace Rows
def none {H : Type} : Left H := { results := [], args := [] }

/-- 'barbicanlaw.TokenNumbers': WHATEVER THE INPUT: true; the input reads as it did. -/
def tokenNumbersSpec : ChangeSpec := { name := "tokenNumbers", fn := fun _ => fun
  | [d] => { results := [.lit (.bool true)], args := [d] }
  | _ => none }
def tokenNumbersRow : OpenClaim := { program := "ytbndggpnlncpbad", sum := "ddfe052ec916926e7c82e82d0fb2038b35d779d96fe471a4d2140a0db9f78e95", func := "barbican/barbicanlaw.TokenNumbers", spec := "tokenNumbers", unfollowed := true, recurses := true, apart := false }
def TokenNumbersSaid : Prop := tokenNumbersRow.holds Try.pinned (OpenSpec.ofChange tokenNumbersSpec)

/-- ITS FALSE NEIGHBOUR: 'it returns false'. Refute it at one input. -/
def tokenNumbersWrong : ChangeSpec := { name := "tokenNumbers", fn := fun _ => fun
  | [d] => { results := [.lit (.bool false)], args := [d] }
  | _ => none }
def TokenNumbersWrongFalsely : Prop := tokenNumbersRow.holds Try.pinned (OpenSpec.ofChange tokenNumbersWrong)

/-- 'barbicanlaw.TokenCuts': WHATEVER THE INPUT: true; the input reads as it did. -/
def tokenCutsSpec : ChangeSpec := { name := "tokenCuts", fn := fun _ => fun
  | [d] => { results := [.lit (.bool true)], args := [d] }
  | _ => none }
def tokenCutsRow : OpenClaim := { program := "ytbndggpnlncpbad", sum := "ddfe052ec916926e7c82e82d0fb2038b35d779d96fe471a4d2140a0db9f78e95", func := "barbican/barbicanlaw.TokenCuts", spec := "tokenCuts", unfollowed := true, recurses := true, apart := false }
def TokenCutsSaid : Prop := tokenCutsRow.holds Try.pinned (OpenSpec.ofChange tokenCutsSpec)

/-- ITS FALSE NEIGHBOUR: 'it returns false'. Refute it at one input. -/
def tokenCutsWrong : ChangeSpec := { name := "tokenCuts", fn := fun _ => fun
  | [d] => { results := [.lit (.bool false)], args := [d] }
  | _ => none }
def TokenCutsWrongFalsely : Prop := tokenCutsRow.holds Try.pinned (OpenSpec.ofChange tokenCutsWrong)

/-- 'barbicankeep.TokensCut': WHATEVER THE INPUT: true; the input reads as it did. -/
def tokensCutSpec : ChangeSpec := { name := "tokensCut", fn := fun _ => fun
  | [d] => { results := [.lit (.bool true)], args := [d] }
  | _ => none }
def tokensCutRow : OpenClaim := { program := "ytbndggpnlncpbad", sum := "ddfe052ec916926e7c82e82d0fb2038b35d779d96fe471a4d2140a0db9f78e95", func := "barbican/barbicankeep.TokensCut", spec := "tokensCut", inPlace := ["internal/abi.NoEscape", "internal/bytealg.MakeNoZero"], unfollowed := true, recurses := true, apart := false }
def TokensCutSaid : Prop := tokensCutRow.holds Try.pinned (OpenSpec.ofChange tokensCutSpec)

/-- ITS FALSE NEIGHBOUR: 'it returns false'. Refute it at one input. -/
def tokensCutWrong : ChangeSpec := { name := "tokensCut", fn := fun _ => fun
  | [d] => { results := [.lit (.bool false)], args := [d] }
  | _ => none }
def TokensCutWrongFalsely : Prop := tokensCutRow.holds Try.pinned (OpenSpec.ofChange tokensCutWrong)

/-- 'barbicanlaw.TreeIdents': WHATEVER THE INPUT: true; the input reads as it did. -/
def treeIdentsSpec : ChangeSpec := { name := "treeIdents", fn := fun _ => fun
  | [d] => { results := [.lit (.bool true)], args := [d] }
  | _ => none }
def treeIdentsRow : OpenClaim := { program := "ytbndggpnlncpbad", sum := "ddfe052ec916926e7c82e82d0fb2038b35d779d96fe471a4d2140a0db9f78e95", func := "barbican/barbicanlaw.TreeIdents", spec := "treeIdents", unfollowed := true, recurses := true, apart := false }
def TreeIdentsSaid : Prop := treeIdentsRow.holds Try.pinned (OpenSpec.ofChange treeIdentsSpec)

/-- ITS FALSE NEIGHBOUR: 'it returns false'. Refute it at one input. -/
def treeIdentsWrong : ChangeSpec := { name := "treeIdents", fn := fun _ => fun
  | [d] => { results := [.lit (.bool false)], args := [d] }
  | _ => none }
def TreeIdentsWrongFalsely : Prop := treeIdentsRow.holds Try.pinned (OpenSpec.ofChange treeIdentsWrong)

/-- 'barbicanlaw.TreeChecks': WHATEVER THE INPUT: true; the input reads as it did. -/
def treeChecksSpec : ChangeSpec := { name := "treeChecks", fn := fun _ => fun
  | [d] => { results := [.lit (.bool true)], args := [d] }
  | _ => none }
def treeChecksRow : OpenClaim := { program := "ytbndggpnlncpbad", sum := "ddfe052ec916926e7c82e82d0fb2038b35d779d96fe471a4d2140a0db9f78e95", func := "barbican/barbicanlaw.TreeChecks", spec := "treeChecks", unfollowed := true, recurses := true, loops := true, apart := false }
def TreeChecksSaid : Prop := treeChecksRow.holds Try.pinned (OpenSpec.ofChange treeChecksSpec)

/-- ITS FALSE NEIGHBOUR: 'it returns false'. Refute it at one input. -/
def treeChecksWrong : ChangeSpec := { name := "treeChecks", fn := fun _ => fun
  | [d] => { results := [.lit (.bool false)], args := [d] }
  | _ => none }
def TreeChecksWrongFalsely : Prop := treeChecksRow.holds Try.pinned (OpenSpec.ofChange treeChecksWrong)

/- THE SECOND FORM. 'bulk': how many values and letters a reading holds, each counted each time it is reached (what is shared counts as often as it is met; a slice's spare places count too). A statement '..UptoSaid' is the law's where the arguments, and the package variables that the reading takes, are together of bulk at most 1048576: NARROWER than '..Said'. Prove '..Said' where nothing that the law and all that it calls make is longer than what came in: it says more and counts as full. Else prove '..UptoSaid'. A law counts once. -/
mutual
def uptoBulk {H : Type} : DataW H → Nat
  | .lit (.string bytes) => bytes.length + 1
  | .lit _ => 1
  | .nil => 1
  | .ptr d => uptoBulk d + 1
  | .slice elems spare => uptoBulkAll elems + uptoBulkAll spare + 1
  | .agg parts => uptoBulkAll parts + 1
  | .iface _ d => uptoBulk d + 1
  | .map entries => uptoBulkEntries entries + 1
  | .held _ => 1
def uptoBulkAll {H : Type} : List (DataW H) → Nat
  | [] => 0
  | d :: r => uptoBulk d + uptoBulkAll r
def uptoBulkEntries {H : Type} : List (Lit × DataW H) → Nat
  | [] => 0
  | x :: r => uptoBulkEntry x + uptoBulkEntries r
def uptoBulkEntry {H : Type} : Lit × DataW H → Nat
  | (.string bytes, d) => bytes.length + uptoBulk d + 1
  | (_, d) => uptoBulk d + 1
 end
def uptoSmall : (H : Type) → List (DataW H) → Bool := fun _ ds => decide (uptoBulkAll ds ≤ 1048576)
def OpenSpec.upto (s : _root_.Go.ChangeSpec) : _root_.Go.OpenSpec := { _root_.Go.OpenSpec.ofChange s with cond := some uptoSmall }

/-- 'barbicanlaw.TokenNumbers', WHERE WHAT IT READS IS OF BULK AT MOST 1048576: true; the input reads as it did. -/
def tokenNumbersUptoRow : OpenClaim := { program := "ytbndggpnlncpbad", sum := "ddfe052ec916926e7c82e82d0fb2038b35d779d96fe471a4d2140a0db9f78e95", func := "barbican/barbicanlaw.TokenNumbers", spec := "tokenNumbers", unfollowed := true, recurses := true, apart := false, narrowed := true }
def TokenNumbersUptoSaid : Prop := tokenNumbersUptoRow.holds Try.pinned (OpenSpec.upto tokenNumbersSpec)

/-- 'barbicanlaw.TokenCuts', WHERE WHAT IT READS IS OF BULK AT MOST 1048576: true; the input reads as it did. -/
def tokenCutsUptoRow : OpenClaim := { program := "ytbndggpnlncpbad", sum := "ddfe052ec916926e7c82e82d0fb2038b35d779d96fe471a4d2140a0db9f78e95", func := "barbican/barbicanlaw.TokenCuts", spec := "tokenCuts", unfollowed := true, recurses := true, apart := false, narrowed := true }
def TokenCutsUptoSaid : Prop := tokenCutsUptoRow.holds Try.pinned (OpenSpec.upto tokenCutsSpec)

/-- 'barbicankeep.TokensCut', WHERE WHAT IT READS IS OF BULK AT MOST 1048576: true; the input reads as it did. -/
def tokensCutUptoRow : OpenClaim := { program := "ytbndggpnlncpbad", sum := "ddfe052ec916926e7c82e82d0fb2038b35d779d96fe471a4d2140a0db9f78e95", func := "barbican/barbicankeep.TokensCut", spec := "tokensCut", inPlace := ["internal/abi.NoEscape", "internal/bytealg.MakeNoZero"], unfollowed := true, recurses := true, apart := false, narrowed := true }
def TokensCutUptoSaid : Prop := tokensCutUptoRow.holds Try.pinned (OpenSpec.upto tokensCutSpec)

/-- 'barbicanlaw.TreeIdents', WHERE WHAT IT READS IS OF BULK AT MOST 1048576: true; the input reads as it did. -/
def treeIdentsUptoRow : OpenClaim := { program := "ytbndggpnlncpbad", sum := "ddfe052ec916926e7c82e82d0fb2038b35d779d96fe471a4d2140a0db9f78e95", func := "barbican/barbicanlaw.TreeIdents", spec := "treeIdents", unfollowed := true, recurses := true, apart := false, narrowed := true }
def TreeIdentsUptoSaid : Prop := treeIdentsUptoRow.holds Try.pinned (OpenSpec.upto treeIdentsSpec)

/-- 'barbicanlaw.TreeChecks', WHERE WHAT IT READS IS OF BULK AT MOST 1048576: true; the input reads as it did. -/
def treeChecksUptoRow : OpenClaim := { program := "ytbndggpnlncpbad", sum := "ddfe052ec916926e7c82e82d0fb2038b35d779d96fe471a4d2140a0db9f78e95", func := "barbican/barbicanlaw.TreeChecks", spec := "treeChecks", unfollowed := true, recurses := true, loops := true, apart := false, narrowed := true }
def TreeChecksUptoSaid : Prop := treeChecksUptoRow.holds Try.pinned (OpenSpec.upto treeChecksSpec)

end Rows
end Go.Proofs.Ytbndggpnlncpbad
