/-
  NARROWER THAN 'FOR EVERY INPUT', by the rows' own cells (each row's printed sentence says how): ProgramsGood: laid · CallsAlone: laid · CallsKeep: laid.
  DERIVED. THE GIVEN ROWS OF THIS SEAT. 3 by the template 'for every input the law returns true; each argument reads behind the call as it read before'; 0 by the template 'total and deterministic' (their statements: YtgjemlhnlpglbaaDoorTotals.lean).
  GIVEN WITH THE SEED: the statements are not yours to turn. If you find one false, say at which input.
  Laid BY PROGRAM, IN A SANDBOX (cutbox-rows.mjs): the forced cells as the released guide's own fill.sh prints them over the translation fd321064e0546a62… (all of the seat's roots in one cut). By AI agents, Wed Nov 11 2026. No macro, syntax, notation, axiom, sorry.
-/
import Derived.Test.YtgjemlhnlpglbaaDoorChecked
import GoSem.Claim
import GoSem.ClaimJoined
import GoSem.ClaimMapViews
import Derived.JoinedTies
import Derived.KernelRfl
namespace Go.Proofs.YtgjemlhnlpglbaaDoor
/- THE CELL 'sum', in the pinned program and in every row, IS THE sha256 OF THE DUMP (.gsa) THAT YtgjemlhnlpglbaaDoorProg.lean LOADS. Nothing in Lean hashes anything: it is a label: what it is worth is what the hold of that sum in a sandbox is worth. -/
noncomputable def Tryd.pinned : Pinned := { name := "ytgjemlhnlpglbaadoor", sum := "fd321064e0546a62dda4ee5911f13a7aeb58a383719b18a5edd192df9c82e72c", checked := Tryd.checked }
namespace Rows
def none {H : Type} : Left H := { results := [], args := [] }

/- WHAT THE LISTED PACKAGE-LEVEL VARIABLES READ AS WHEN THE CALL BEGINS. Each datum BY PROGRAM (the guide's laid-datum.mjs) off the statement by which the dump's own 'gosem.cut.vars' lays the variable. In a bare row this is a premise. The card (YtgjemlhnlpglbaaDoorCards.lean) ties it to the program's text. -/
def laid_barbican_barbicankeep_units {H : Type} : DataW H := .agg [.lit (.string [111, 110, 101]), .lit (.string [116, 119, 111]), .lit (.string [116, 114, 105])]

/-- 'barbicankeep.ProgramsGood': WHATEVER THE INPUT: true; the input reads as it did. -/
def programsGoodSpec : ChangeSpec := { name := "programsGood", fn := fun _ => fun
  | [d1, d2] => { results := [.lit (.bool true)], args := [d1, d2] }
  | _ => none }
def programsGoodRow : OpenClaim := { program := "ytgjemlhnlpglbaadoor", sum := "fd321064e0546a62dda4ee5911f13a7aeb58a383719b18a5edd192df9c82e72c", func := "barbican/barbicankeep.ProgramsGood", spec := "programsGood", unfollowed := true, recurses := true, named := ["barbican/barbicankeep.units"], apart := false, laid := [("barbican/barbicankeep.units", laid_barbican_barbicankeep_units)] }
def ProgramsGoodSaid : Prop := programsGoodRow.holds Tryd.pinned (OpenSpec.ofChange programsGoodSpec)

/-- ITS FALSE NEIGHBOUR: 'it returns false'. Refute it at one input. -/
def programsGoodWrong : ChangeSpec := { name := "programsGood", fn := fun _ => fun
  | [d1, d2] => { results := [.lit (.bool false)], args := [d1, d2] }
  | _ => none }
def ProgramsGoodWrongFalsely : Prop := programsGoodRow.holds Tryd.pinned (OpenSpec.ofChange programsGoodWrong)

/-- 'barbicankeep.CallsAlone': WHATEVER THE INPUT: true; the input reads as it did. -/
def callsAloneSpec : ChangeSpec := { name := "callsAlone", fn := fun _ => fun
  | [d1, d2, d3, d4, d5] => { results := [.lit (.bool true)], args := [d1, d2, d3, d4, d5] }
  | _ => none }
def callsAloneRow : OpenClaim := { program := "ytgjemlhnlpglbaadoor", sum := "fd321064e0546a62dda4ee5911f13a7aeb58a383719b18a5edd192df9c82e72c", func := "barbican/barbicankeep.CallsAlone", spec := "callsAlone", unfollowed := true, recurses := true, named := ["barbican/barbicankeep.units"], apart := false, laid := [("barbican/barbicankeep.units", laid_barbican_barbicankeep_units)] }
def CallsAloneSaid : Prop := callsAloneRow.holds Tryd.pinned (OpenSpec.ofChange callsAloneSpec)

/-- ITS FALSE NEIGHBOUR: 'it returns false'. Refute it at one input. -/
def callsAloneWrong : ChangeSpec := { name := "callsAlone", fn := fun _ => fun
  | [d1, d2, d3, d4, d5] => { results := [.lit (.bool false)], args := [d1, d2, d3, d4, d5] }
  | _ => none }
def CallsAloneWrongFalsely : Prop := callsAloneRow.holds Tryd.pinned (OpenSpec.ofChange callsAloneWrong)

/-- 'barbicankeep.CallsKeep': WHATEVER THE INPUT: true; the input reads as it did. -/
def callsKeepSpec : ChangeSpec := { name := "callsKeep", fn := fun _ => fun
  | [d1, d2, d3] => { results := [.lit (.bool true)], args := [d1, d2, d3] }
  | _ => none }
def callsKeepRow : OpenClaim := { program := "ytgjemlhnlpglbaadoor", sum := "fd321064e0546a62dda4ee5911f13a7aeb58a383719b18a5edd192df9c82e72c", func := "barbican/barbicankeep.CallsKeep", spec := "callsKeep", unfollowed := true, recurses := true, named := ["barbican/barbicankeep.units"], apart := false, laid := [("barbican/barbicankeep.units", laid_barbican_barbicankeep_units)] }
def CallsKeepSaid : Prop := callsKeepRow.holds Tryd.pinned (OpenSpec.ofChange callsKeepSpec)

/-- ITS FALSE NEIGHBOUR: 'it returns false'. Refute it at one input. -/
def callsKeepWrong : ChangeSpec := { name := "callsKeep", fn := fun _ => fun
  | [d1, d2, d3] => { results := [.lit (.bool false)], args := [d1, d2, d3] }
  | _ => none }
def CallsKeepWrongFalsely : Prop := callsKeepRow.holds Tryd.pinned (OpenSpec.ofChange callsKeepWrong)

/- THE SECOND FORM. 'bulk': how many values and letters a reading holds, each counted each time it is reached (what is shared counts as often as it is met; a slice's spare places count too). A statement '..UptoSaid' is the law's where the arguments, and the package variables that the reading takes, are together of bulk at most 1048576: NARROWER than '..Said'. Prove '..Said' where nothing that the law and all that it calls make is longer than what came in: it says more and counts as full. Else prove '..UptoSaid'. A law counts once. -/
mutual
def uptoBulk {H : Type} : DataW H → Nat
  | .lit (.string bytes) => bytes.length + 1
  | .lit _ => 1
  | .nil => 1
  | .ptr d => uptoBulk d + 1
  | .slice elems spare => uptoBulkAll elems + uptoBulkAll spare + 1
  | .agg parts => uptoBulkAll parts + 1
  | .iface _ d => uptoBulk d + 1
  | .map entries => uptoBulkEntries entries + 1
  | .held _ => 1
def uptoBulkAll {H : Type} : List (DataW H) → Nat
  | [] => 0
  | d :: r => uptoBulk d + uptoBulkAll r
def uptoBulkEntries {H : Type} : List (Lit × DataW H) → Nat
  | [] => 0
  | x :: r => uptoBulkEntry x + uptoBulkEntries r
def uptoBulkEntry {H : Type} : Lit × DataW H → Nat
  | (.string bytes, d) => bytes.length + uptoBulk d + 1
  | (_, d) => uptoBulk d + 1
 end
def uptoSmall : (H : Type) → List (DataW H) → Bool := fun _ ds => decide (uptoBulkAll ds ≤ 1048576)
def OpenSpec.upto (s : _root_.Go.ChangeSpec) : _root_.Go.OpenSpec := { _root_.Go.OpenSpec.ofChange s with cond := some uptoSmall }

/-- 'barbicankeep.ProgramsGood', WHERE WHAT IT READS IS OF BULK AT MOST 1048576: true; the input reads as it did. -/
def programsGoodUptoRow : OpenClaim := { program := "ytgjemlhnlpglbaadoor", sum := "fd321064e0546a62dda4ee5911f13a7aeb58a383719b18a5edd192df9c82e72c", func := "barbican/barbicankeep.ProgramsGood", spec := "programsGood", unfollowed := true, recurses := true, named := ["barbican/barbicankeep.units"], apart := false, laid := [("barbican/barbicankeep.units", laid_barbican_barbicankeep_units)], narrowed := true }
def ProgramsGoodUptoSaid : Prop := programsGoodUptoRow.holds Tryd.pinned (OpenSpec.upto programsGoodSpec)

/-- 'barbicankeep.CallsAlone', WHERE WHAT IT READS IS OF BULK AT MOST 1048576: true; the input reads as it did. -/
def callsAloneUptoRow : OpenClaim := { program := "ytgjemlhnlpglbaadoor", sum := "fd321064e0546a62dda4ee5911f13a7aeb58a383719b18a5edd192df9c82e72c", func := "barbican/barbicankeep.CallsAlone", spec := "callsAlone", unfollowed := true, recurses := true, named := ["barbican/barbicankeep.units"], apart := false, laid := [("barbican/barbicankeep.units", laid_barbican_barbicankeep_units)], narrowed := true }
def CallsAloneUptoSaid : Prop := callsAloneUptoRow.holds Tryd.pinned (OpenSpec.upto callsAloneSpec)

/-- 'barbicankeep.CallsKeep', WHERE WHAT IT READS IS OF BULK AT MOST 1048576: true; the input reads as it did. -/
def callsKeepUptoRow : OpenClaim := { program := "ytgjemlhnlpglbaadoor", sum := "fd321064e0546a62dda4ee5911f13a7aeb58a383719b18a5edd192df9c82e72c", func := "barbican/barbicankeep.CallsKeep", spec := "callsKeep", unfollowed := true, recurses := true, named := ["barbican/barbicankeep.units"], apart := false, laid := [("barbican/barbicankeep.units", laid_barbican_barbicankeep_units)], narrowed := true }
def CallsKeepUptoSaid : Prop := callsKeepUptoRow.holds Tryd.pinned (OpenSpec.upto callsKeepSpec)

end Rows
end Go.Proofs.YtgjemlhnlpglbaaDoor
