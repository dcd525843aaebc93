/-
  NARROWER THAN 'FOR EVERY INPUT', by the rows' own cells (each row's printed sentence says how): CodeBack: laid · MemChecks: laid · MemData: laid · MemLoads: laid · MemStores: laid.
  DERIVED. THE GIVEN ROWS OF THIS SEAT. 5 by the template 'for every input the law returns true; each argument reads behind the call as it read before'; 0 by the template 'total and deterministic' (their statements: YthjfnpbdmknokabDoorTotals.lean).
  GIVEN WITH THE SEED: the statements are not yours to turn. If you find one false, say at which input.
  Laid BY PROGRAM, IN A SANDBOX (cutbox-rows.mjs): the forced cells as the released guide's own fill.sh prints them over the translation 990ede16d096f583… (all of the seat's roots in one cut). By AI agents, Wed Nov 11 2026. No macro, syntax, notation, axiom, sorry.
-/
import Derived.Test.YthjfnpbdmknokabDoorChecked
import GoSem.Claim
import GoSem.ClaimJoined
import GoSem.ClaimMapViews
import Derived.JoinedTies
import Derived.KernelRfl
namespace Go.Proofs.YthjfnpbdmknokabDoor
/- THE CELL 'sum', in the pinned program and in every row, IS THE sha256 OF THE DUMP (.gsa) THAT YthjfnpbdmknokabDoorProg.lean LOADS. Nothing in Lean hashes anything: it is a label: what it is worth is what the hold of that sum in a sandbox is worth. -/
noncomputable def Tryd.pinned : Pinned := { name := "ythjfnpbdmknokabdoor", sum := "990ede16d096f583ff859e1c32925433ea375372a47bc19c7b053a5f7a03f804", checked := Tryd.checked }
namespace Rows
def none {H : Type} : Left H := { results := [], args := [] }

/- WHAT THE LISTED PACKAGE-LEVEL VARIABLES READ AS WHEN THE CALL BEGINS. Each datum BY PROGRAM (the guide's laid-datum.mjs) off the statement by which the dump's own 'gosem.cut.vars' lays the variable. In a bare row this is a premise. The card (YthjfnpbdmknokabDoorCards.lean) ties it to the program's text. -/
def laid_barbican_code_bounds {H : Type} : DataW H := .agg [.agg [.lit (.int .i64 0), .lit (.int .i64 0), .lit (.int .i64 0), .lit (.int .i64 0)], .agg [.lit (.int .i64 0), .lit (.int .i64 65535), .lit (.int .i64 0), .lit (.int .i64 0)], .agg [.lit (.int .i64 0), .lit (.int .i64 0), .lit (.int .i64 0), .lit (.int .i64 0)], .agg [.lit (.int .i64 0), .lit (.int .i64 0), .lit (.int .i64 0), .lit (.int .i64 0)], .agg [.lit (.int .i64 0), .lit (.int .i64 7), .lit (.int .i64 0), .lit (.int .i64 0)], .agg [.lit (.int .i64 0), .lit (.int .i64 7), .lit (.int .i64 0), .lit (.int .i64 0)], .agg [.lit (.int .i64 0), .lit (.int .i64 0), .lit (.int .i64 0), .lit (.int .i64 0)], .agg [.lit (.int .i64 0), .lit (.int .i64 0), .lit (.int .i64 0), .lit (.int .i64 0)], .agg [.lit (.int .i64 1), .lit (.int .i64 10), .lit (.int .i64 0), .lit (.int .i64 0)], .agg [.lit (.int .i64 0), .lit (.int .i64 1199), .lit (.int .i64 0), .lit (.int .i64 0)], .agg [.lit (.int .i64 0), .lit (.int .i64 1199), .lit (.int .i64 0), .lit (.int .i64 0)], .agg [.lit (.int .i64 0), .lit (.int .i64 1199), .lit (.int .i64 4), .lit (.int .i64 0)], .agg [.lit (.int .i64 0), .lit (.int .i64 4), .lit (.int .i64 7), .lit (.int .i64 4)], .agg [.lit (.int .i64 0), .lit (.int .i64 0), .lit (.int .i64 0), .lit (.int .i64 0)], .agg [.lit (.int .i64 0), .lit (.int .i64 0), .lit (.int .i64 0), .lit (.int .i64 0)], .agg [.lit (.int .i64 0), .lit (.int .i64 0), .lit (.int .i64 0), .lit (.int .i64 0)]]

/-- 'barbicankeep.CodeBack': WHATEVER THE INPUT: true; the input reads as it did. -/
def codeBackSpec : ChangeSpec := { name := "codeBack", fn := fun _ => fun
  | [d1, d2] => { results := [.lit (.bool true)], args := [d1, d2] }
  | _ => none }
def codeBackRow : OpenClaim := { program := "ythjfnpbdmknokabdoor", sum := "990ede16d096f583ff859e1c32925433ea375372a47bc19c7b053a5f7a03f804", func := "barbican/barbicankeep.CodeBack", spec := "codeBack", named := ["barbican/code.bounds"], apart := false, laid := [("barbican/code.bounds", laid_barbican_code_bounds)] }
def CodeBackSaid : Prop := codeBackRow.holds Tryd.pinned (OpenSpec.ofChange codeBackSpec)

/-- ITS FALSE NEIGHBOUR: 'it returns false'. Refute it at one input. -/
def codeBackWrong : ChangeSpec := { name := "codeBack", fn := fun _ => fun
  | [d1, d2] => { results := [.lit (.bool false)], args := [d1, d2] }
  | _ => none }
def CodeBackWrongFalsely : Prop := codeBackRow.holds Tryd.pinned (OpenSpec.ofChange codeBackWrong)

/-- 'barbicanlaw.MemChecks': WHATEVER THE INPUT: true; the input reads as it did. -/
def memChecksSpec : ChangeSpec := { name := "memChecks", fn := fun _ => fun
  | [d] => { results := [.lit (.bool true)], args := [d] }
  | _ => none }
def memChecksRow : OpenClaim := { program := "ythjfnpbdmknokabdoor", sum := "990ede16d096f583ff859e1c32925433ea375372a47bc19c7b053a5f7a03f804", func := "barbican/barbicanlaw.MemChecks", spec := "memChecks", named := ["barbican/code.bounds"], apart := false, laid := [("barbican/code.bounds", laid_barbican_code_bounds)] }
def MemChecksSaid : Prop := memChecksRow.holds Tryd.pinned (OpenSpec.ofChange memChecksSpec)

/-- ITS FALSE NEIGHBOUR: 'it returns false'. Refute it at one input. -/
def memChecksWrong : ChangeSpec := { name := "memChecks", fn := fun _ => fun
  | [d] => { results := [.lit (.bool false)], args := [d] }
  | _ => none }
def MemChecksWrongFalsely : Prop := memChecksRow.holds Tryd.pinned (OpenSpec.ofChange memChecksWrong)

/-- 'barbicanlaw.MemData': WHATEVER THE INPUT: true; the input reads as it did. -/
def memDataSpec : ChangeSpec := { name := "memData", fn := fun _ => fun
  | [d1, d2] => { results := [.lit (.bool true)], args := [d1, d2] }
  | _ => none }
def memDataRow : OpenClaim := { program := "ythjfnpbdmknokabdoor", sum := "990ede16d096f583ff859e1c32925433ea375372a47bc19c7b053a5f7a03f804", func := "barbican/barbicanlaw.MemData", spec := "memData", named := ["barbican/code.bounds"], apart := false, laid := [("barbican/code.bounds", laid_barbican_code_bounds)] }
def MemDataSaid : Prop := memDataRow.holds Tryd.pinned (OpenSpec.ofChange memDataSpec)

/-- ITS FALSE NEIGHBOUR: 'it returns false'. Refute it at one input. -/
def memDataWrong : ChangeSpec := { name := "memData", fn := fun _ => fun
  | [d1, d2] => { results := [.lit (.bool false)], args := [d1, d2] }
  | _ => none }
def MemDataWrongFalsely : Prop := memDataRow.holds Tryd.pinned (OpenSpec.ofChange memDataWrong)

/-- 'barbicanlaw.MemLoads': WHATEVER THE INPUT: true; the input reads as it did. -/
def memLoadsSpec : ChangeSpec := { name := "memLoads", fn := fun _ => fun
  | [d1, d2, d3, d4] => { results := [.lit (.bool true)], args := [d1, d2, d3, d4] }
  | _ => none }
def memLoadsRow : OpenClaim := { program := "ythjfnpbdmknokabdoor", sum := "990ede16d096f583ff859e1c32925433ea375372a47bc19c7b053a5f7a03f804", func := "barbican/barbicanlaw.MemLoads", spec := "memLoads", unfollowed := true, recurses := true, named := ["barbican/code.bounds"], apart := false, laid := [("barbican/code.bounds", laid_barbican_code_bounds)] }
def MemLoadsSaid : Prop := memLoadsRow.holds Tryd.pinned (OpenSpec.ofChange memLoadsSpec)

/-- ITS FALSE NEIGHBOUR: 'it returns false'. Refute it at one input. -/
def memLoadsWrong : ChangeSpec := { name := "memLoads", fn := fun _ => fun
  | [d1, d2, d3, d4] => { results := [.lit (.bool false)], args := [d1, d2, d3, d4] }
  | _ => none }
def MemLoadsWrongFalsely : Prop := memLoadsRow.holds Tryd.pinned (OpenSpec.ofChange memLoadsWrong)

/-- 'barbicanlaw.MemStores': WHATEVER THE INPUT: true; the input reads as it did. -/
def memStoresSpec : ChangeSpec := { name := "memStores", fn := fun _ => fun
  | [d1, d2, d3, d4, d5] => { results := [.lit (.bool true)], args := [d1, d2, d3, d4, d5] }
  | _ => none }
def memStoresRow : OpenClaim := { program := "ythjfnpbdmknokabdoor", sum := "990ede16d096f583ff859e1c32925433ea375372a47bc19c7b053a5f7a03f804", func := "barbican/barbicanlaw.MemStores", spec := "memStores", unfollowed := true, recurses := true, named := ["barbican/code.bounds"], apart := false, laid := [("barbican/code.bounds", laid_barbican_code_bounds)] }
def MemStoresSaid : Prop := memStoresRow.holds Tryd.pinned (OpenSpec.ofChange memStoresSpec)

/-- ITS FALSE NEIGHBOUR: 'it returns false'. Refute it at one input. -/
def memStoresWrong : ChangeSpec := { name := "memStores", fn := fun _ => fun
  | [d1, d2, d3, d4, d5] => { results := [.lit (.bool false)], args := [d1, d2, d3, d4, d5] }
  | _ => none }
def MemStoresWrongFalsely : Prop := memStoresRow.holds Tryd.pinned (OpenSpec.ofChange memStoresWrong)

/- THE SECOND FORM. 'bulk': how many values and letters a reading holds, each counted each time it is reached (what is shared counts as often as it is met; a slice's spare places count too). A statement '..UptoSaid' is the law's where the arguments, and the package variables that the reading takes, are together of bulk at most 1048576: NARROWER than '..Said'. Prove '..Said' where nothing that the law and all that it calls make is longer than what came in: it says more and counts as full. Else prove '..UptoSaid'. A law counts once. -/
mutual
def uptoBulk {H : Type} : DataW H → Nat
  | .lit (.string bytes) => bytes.length + 1
  | .lit _ => 1
  | .nil => 1
  | .ptr d => uptoBulk d + 1
  | .slice elems spare => uptoBulkAll elems + uptoBulkAll spare + 1
  | .agg parts => uptoBulkAll parts + 1
  | .iface _ d => uptoBulk d + 1
  | .map entries => uptoBulkEntries entries + 1
  | .held _ => 1
def uptoBulkAll {H : Type} : List (DataW H) → Nat
  | [] => 0
  | d :: r => uptoBulk d + uptoBulkAll r
def uptoBulkEntries {H : Type} : List (Lit × DataW H) → Nat
  | [] => 0
  | x :: r => uptoBulkEntry x + uptoBulkEntries r
def uptoBulkEntry {H : Type} : Lit × DataW H → Nat
  | (.string bytes, d) => bytes.length + uptoBulk d + 1
  | (_, d) => uptoBulk d + 1
 end
def uptoSmall : (H : Type) → List (DataW H) → Bool := fun _ ds => decide (uptoBulkAll ds ≤ 1048576)
def OpenSpec.upto (s : _root_.Go.ChangeSpec) : _root_.Go.OpenSpec := { _root_.Go.OpenSpec.ofChange s with cond := some uptoSmall }

/-- 'barbicankeep.CodeBack', WHERE WHAT IT READS IS OF BULK AT MOST 1048576: true; the input reads as it did. -/
def codeBackUptoRow : OpenClaim := { program := "ythjfnpbdmknokabdoor", sum := "990ede16d096f583ff859e1c32925433ea375372a47bc19c7b053a5f7a03f804", func := "barbican/barbicankeep.CodeBack", spec := "codeBack", named := ["barbican/code.bounds"], apart := false, laid := [("barbican/code.bounds", laid_barbican_code_bounds)], narrowed := true }
def CodeBackUptoSaid : Prop := codeBackUptoRow.holds Tryd.pinned (OpenSpec.upto codeBackSpec)

/-- 'barbicanlaw.MemChecks', WHERE WHAT IT READS IS OF BULK AT MOST 1048576: true; the input reads as it did. -/
def memChecksUptoRow : OpenClaim := { program := "ythjfnpbdmknokabdoor", sum := "990ede16d096f583ff859e1c32925433ea375372a47bc19c7b053a5f7a03f804", func := "barbican/barbicanlaw.MemChecks", spec := "memChecks", named := ["barbican/code.bounds"], apart := false, laid := [("barbican/code.bounds", laid_barbican_code_bounds)], narrowed := true }
def MemChecksUptoSaid : Prop := memChecksUptoRow.holds Tryd.pinned (OpenSpec.upto memChecksSpec)

/-- 'barbicanlaw.MemData', WHERE WHAT IT READS IS OF BULK AT MOST 1048576: true; the input reads as it did. -/
def memDataUptoRow : OpenClaim := { program := "ythjfnpbdmknokabdoor", sum := "990ede16d096f583ff859e1c32925433ea375372a47bc19c7b053a5f7a03f804", func := "barbican/barbicanlaw.MemData", spec := "memData", named := ["barbican/code.bounds"], apart := false, laid := [("barbican/code.bounds", laid_barbican_code_bounds)], narrowed := true }
def MemDataUptoSaid : Prop := memDataUptoRow.holds Tryd.pinned (OpenSpec.upto memDataSpec)

/-- 'barbicanlaw.MemLoads', WHERE WHAT IT READS IS OF BULK AT MOST 1048576: true; the input reads as it did. -/
def memLoadsUptoRow : OpenClaim := { program := "ythjfnpbdmknokabdoor", sum := "990ede16d096f583ff859e1c32925433ea375372a47bc19c7b053a5f7a03f804", func := "barbican/barbicanlaw.MemLoads", spec := "memLoads", unfollowed := true, recurses := true, named := ["barbican/code.bounds"], apart := false, laid := [("barbican/code.bounds", laid_barbican_code_bounds)], narrowed := true }
def MemLoadsUptoSaid : Prop := memLoadsUptoRow.holds Tryd.pinned (OpenSpec.upto memLoadsSpec)

/-- 'barbicanlaw.MemStores', WHERE WHAT IT READS IS OF BULK AT MOST 1048576: true; the input reads as it did. -/
def memStoresUptoRow : OpenClaim := { program := "ythjfnpbdmknokabdoor", sum := "990ede16d096f583ff859e1c32925433ea375372a47bc19c7b053a5f7a03f804", func := "barbican/barbicanlaw.MemStores", spec := "memStores", unfollowed := true, recurses := true, named := ["barbican/code.bounds"], apart := false, laid := [("barbican/code.bounds", laid_barbican_code_bounds)], narrowed := true }
def MemStoresUptoSaid : Prop := memStoresUptoRow.holds Tryd.pinned (OpenSpec.upto memStoresSpec)

end Rows
end Go.Proofs.YthjfnpbdmknokabDoor
