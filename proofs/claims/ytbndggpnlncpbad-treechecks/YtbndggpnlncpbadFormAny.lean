/-
  WHAT tree.exprInForm GIVES, for every expression of a kind that there is.
  Conditions: each contract's own hypotheses.
-/
import Derived.Test.YtbndggpnlncpbadForm1
import Derived.Test.YtbndggpnlncpbadForm2
import Derived.Test.YtbndggpnlncpbadForm3
import Derived.Test.YtbndggpnlncpbadForm4
import Derived.Test.YtbndggpnlncpbadForm5
namespace Go.Proofs.Ytbndggpnlncpbad.Forms
open Go.RowKit Go.Proofs.Ytbndggpnlncpbad.Ident Trees

theorem inForm (x : ENode) (hk : 1 ≤ x.kind ∧ x.kind ≤ 5) (hof : x.of.size ≤ maxLen) (hs : x.s.size ≤ maxLen) (hl : x.len ≤ 4) (w : World) :
    Calls Try.prog 58 #[.agg (ecells x)] w fun e w' => e = .returned (.bool (exprForm x)) ∧ Below w.heap.size w w' := by
  obtain ⟨kind, n, of, s, ao, len, cap⟩ := x
  dsimp only at hk hof hs hl
  rcases (show kind = 1 ∨ kind = 2 ∨ kind = 3 ∨ kind = 4 ∨ kind = 5 by omega) with rfl | rfl | rfl | rfl | rfl
  · exact inForm1 n of s ao len cap hof hs hl w
  · exact inForm2 n of s ao len cap hof hs hl w
  · exact inForm3 n of s ao len cap hof hs hl w
  · exact inForm4 n of s ao len cap hof hs hl w
  · exact inForm5 n of s ao len cap hof hs hl w
end Go.Proofs.Ytbndggpnlncpbad.Forms
