/-
  NARROWER THAN 'FOR EVERY INPUT', by the rows' own cells (each row's printed sentence says how): NamesChecks: loops · EvalFresh: loops · EvalChecks: loops.
  DERIVED. THE GIVEN ROWS OF THIS SEAT. 4 by the template 'for every input the law returns true; each argument reads behind the call as it read before'; 0 by the template 'total and deterministic' (their statements: YtalnfnkpemojhaaTotals.lean).
  GIVEN WITH THE SEED: the statements are not yours to turn. If you find one false, say at which input.
  Laid BY PROGRAM, IN A SANDBOX (cutbox-rows.mjs): the forced cells as the released guide's own fill.sh prints them over the translation 38b3c182c4135cb0… (all of the seat's roots in one cut). By AI agents, Wed Nov 11 2026. No macro, syntax, notation, axiom, sorry.
-/
import Derived.Test.YtalnfnkpemojhaaChecked
import GoSem.Claim
import GoSem.ClaimJoined
import GoSem.ClaimMapViews
import Derived.JoinedTies
import Derived.KernelRfl
namespace Go.Proofs.Ytalnfnkpemojhaa
/- THE CELL 'sum', in the pinned program and in every row, IS THE sha256 OF THE DUMP (.gsa) THAT YtalnfnkpemojhaaProg.lean LOADS. Nothing in Lean hashes anything: it is a label: what it is worth is what the hold of that sum in a sandbox is worth. -/
noncomputable def Try.pinned : Pinned := { name := "ytalnfnkpemojhaa", sum := "38b3c182c4135cb0df15aa67e584988737be9363ffa2afffe4deb4ad73da282c", checked := Try.checked }
namespace Rows
def none {H : Type} : Left H := { results := [], args := [] }

/-- 'barbicanlaw.NamesChecks': WHATEVER THE INPUT: true; the input reads as it did. -/
def namesChecksSpec : ChangeSpec := { name := "namesChecks", fn := fun _ => fun
  | [d] => { results := [.lit (.bool true)], args := [d] }
  | _ => none }
def namesChecksRow : OpenClaim := { program := "ytalnfnkpemojhaa", sum := "38b3c182c4135cb0df15aa67e584988737be9363ffa2afffe4deb4ad73da282c", func := "barbican/barbicanlaw.NamesChecks", spec := "namesChecks", unfollowed := true, recurses := true, loops := true, apart := false }
def NamesChecksSaid : Prop := namesChecksRow.holds Try.pinned (OpenSpec.ofChange namesChecksSpec)

/-- ITS FALSE NEIGHBOUR: 'it returns false'. Refute it at one input. -/
def namesChecksWrong : ChangeSpec := { name := "namesChecks", fn := fun _ => fun
  | [d] => { results := [.lit (.bool false)], args := [d] }
  | _ => none }
def NamesChecksWrongFalsely : Prop := namesChecksRow.holds Try.pinned (OpenSpec.ofChange namesChecksWrong)

/-- 'barbicanlaw.EvalFresh': WHATEVER THE INPUT: true; the input reads as it did. -/
def evalFreshSpec : ChangeSpec := { name := "evalFresh", fn := fun _ => fun
  | [d] => { results := [.lit (.bool true)], args := [d] }
  | _ => none }
def evalFreshRow : OpenClaim := { program := "ytalnfnkpemojhaa", sum := "38b3c182c4135cb0df15aa67e584988737be9363ffa2afffe4deb4ad73da282c", func := "barbican/barbicanlaw.EvalFresh", spec := "evalFresh", unfollowed := true, recurses := true, loops := true, apart := false }
def EvalFreshSaid : Prop := evalFreshRow.holds Try.pinned (OpenSpec.ofChange evalFreshSpec)

/-- ITS FALSE NEIGHBOUR: 'it returns false'. Refute it at one input. -/
def evalFreshWrong : ChangeSpec := { name := "evalFresh", fn := fun _ => fun
  | [d] => { results := [.lit (.bool false)], args := [d] }
  | _ => none }
def EvalFreshWrongFalsely : Prop := evalFreshRow.holds Try.pinned (OpenSpec.ofChange evalFreshWrong)

/-- 'barbicanlaw.EvalCopies': WHATEVER THE INPUT: true; the input reads as it did. -/
def evalCopiesSpec : ChangeSpec := { name := "evalCopies", fn := fun _ => fun
  | [d] => { results := [.lit (.bool true)], args := [d] }
  | _ => none }
def evalCopiesRow : OpenClaim := { program := "ytalnfnkpemojhaa", sum := "38b3c182c4135cb0df15aa67e584988737be9363ffa2afffe4deb4ad73da282c", func := "barbican/barbicanlaw.EvalCopies", spec := "evalCopies", apart := false }
def EvalCopiesSaid : Prop := evalCopiesRow.holds Try.pinned (OpenSpec.ofChange evalCopiesSpec)

/-- ITS FALSE NEIGHBOUR: 'it returns false'. Refute it at one input. -/
def evalCopiesWrong : ChangeSpec := { name := "evalCopies", fn := fun _ => fun
  | [d] => { results := [.lit (.bool false)], args := [d] }
  | _ => none }
def EvalCopiesWrongFalsely : Prop := evalCopiesRow.holds Try.pinned (OpenSpec.ofChange evalCopiesWrong)

/-- 'barbicanlaw.EvalChecks': WHATEVER THE INPUT: true; the input reads as it did. -/
def evalChecksSpec : ChangeSpec := { name := "evalChecks", fn := fun _ => fun
  | [d1, d2] => { results := [.lit (.bool true)], args := [d1, d2] }
  | _ => none }
def evalChecksRow : OpenClaim := { program := "ytalnfnkpemojhaa", sum := "38b3c182c4135cb0df15aa67e584988737be9363ffa2afffe4deb4ad73da282c", func := "barbican/barbicanlaw.EvalChecks", spec := "evalChecks", unfollowed := true, recurses := true, loops := true, apart := false }
def EvalChecksSaid : Prop := evalChecksRow.holds Try.pinned (OpenSpec.ofChange evalChecksSpec)

/-- ITS FALSE NEIGHBOUR: 'it returns false'. Refute it at one input. -/
def evalChecksWrong : ChangeSpec := { name := "evalChecks", fn := fun _ => fun
  | [d1, d2] => { results := [.lit (.bool false)], args := [d1, d2] }
  | _ => none }
def EvalChecksWrongFalsely : Prop := evalChecksRow.holds Try.pinned (OpenSpec.ofChange evalChecksWrong)

/- THE SECOND FORM. 'bulk': how many values and letters a reading holds, each counted each time it is reached (what is shared counts as often as it is met; a slice's spare places count too). A statement '..UptoSaid' is the law's where the arguments, and the package variables that the reading takes, are together of bulk at most 1048576: NARROWER than '..Said'. Prove '..Said' where nothing that the law and all that it calls make is longer than what came in: it says more and counts as full. Else prove '..UptoSaid'. A law counts once. -/
mutual
def uptoBulk {H : Type} : DataW H → Nat
  | .lit (.string bytes) => bytes.length + 1
  | .lit _ => 1
  | .nil => 1
  | .ptr d => uptoBulk d + 1
  | .slice elems spare => uptoBulkAll elems + uptoBulkAll spare + 1
  | .agg parts => uptoBulkAll parts + 1
  | .iface _ d => uptoBulk d + 1
  | .map entries => uptoBulkEntries entries + 1
  | .held _ => 1
def uptoBulkAll {H : Type} : List (DataW H) → Nat
  | [] => 0
  | d :: r => uptoBulk d + uptoBulkAll r
def uptoBulkEntries {H : Type} : List (Lit × DataW H) → Nat
  | [] => 0
  | x :: r => uptoBulkEntry x + uptoBulkEntries r
def uptoBulkEntry {H : Type} : Lit × DataW H → Nat
  | (.string bytes, d) => bytes.length + uptoBulk d + 1
  | (_, d) => uptoBulk d + 1
 end
def uptoSmall : (H : Type) → List (DataW H) → Bool := fun _ ds => decide (uptoBulkAll ds ≤ 1048576)
def OpenSpec.upto (s : _root_.Go.ChangeSpec) : _root_.Go.OpenSpec := { _root_.Go.OpenSpec.ofChange s with cond := some uptoSmall }

/-- 'barbicanlaw.NamesChecks', WHERE WHAT IT READS IS OF BULK AT MOST 1048576: true; the input reads as it did. -/
def namesChecksUptoRow : OpenClaim := { program := "ytalnfnkpemojhaa", sum := "38b3c182c4135cb0df15aa67e584988737be9363ffa2afffe4deb4ad73da282c", func := "barbican/barbicanlaw.NamesChecks", spec := "namesChecks", unfollowed := true, recurses := true, loops := true, apart := false, narrowed := true }
def NamesChecksUptoSaid : Prop := namesChecksUptoRow.holds Try.pinned (OpenSpec.upto namesChecksSpec)

/-- 'barbicanlaw.EvalFresh', WHERE WHAT IT READS IS OF BULK AT MOST 1048576: true; the input reads as it did. -/
def evalFreshUptoRow : OpenClaim := { program := "ytalnfnkpemojhaa", sum := "38b3c182c4135cb0df15aa67e584988737be9363ffa2afffe4deb4ad73da282c", func := "barbican/barbicanlaw.EvalFresh", spec := "evalFresh", unfollowed := true, recurses := true, loops := true, apart := false, narrowed := true }
def EvalFreshUptoSaid : Prop := evalFreshUptoRow.holds Try.pinned (OpenSpec.upto evalFreshSpec)

/-- 'barbicanlaw.EvalCopies', WHERE WHAT IT READS IS OF BULK AT MOST 1048576: true; the input reads as it did. -/
def evalCopiesUptoRow : OpenClaim := { program := "ytalnfnkpemojhaa", sum := "38b3c182c4135cb0df15aa67e584988737be9363ffa2afffe4deb4ad73da282c", func := "barbican/barbicanlaw.EvalCopies", spec := "evalCopies", apart := false, narrowed := true }
def EvalCopiesUptoSaid : Prop := evalCopiesUptoRow.holds Try.pinned (OpenSpec.upto evalCopiesSpec)

/-- 'barbicanlaw.EvalChecks', WHERE WHAT IT READS IS OF BULK AT MOST 1048576: true; the input reads as it did. -/
def evalChecksUptoRow : OpenClaim := { program := "ytalnfnkpemojhaa", sum := "38b3c182c4135cb0df15aa67e584988737be9363ffa2afffe4deb4ad73da282c", func := "barbican/barbicanlaw.EvalChecks", spec := "evalChecks", unfollowed := true, recurses := true, loops := true, apart := false, narrowed := true }
def EvalChecksUptoSaid : Prop := evalChecksUptoRow.holds Try.pinned (OpenSpec.upto evalChecksSpec)

end Rows
end Go.Proofs.Ytalnfnkpemojhaa
