/-
  WHAT tree.exprInForm GIVES, of a kind.
  Conditions: each contract's own hypotheses.
  WHAT tree.exprInForm GIVES, for every expression of a kind that there is.
  Conditions: each contract's own hypotheses.
-/
import Derived.Test.YtgjemlhnlpglbaaDoorR31
import Derived.Deep.RegionWith
import Derived.Test.YtgjemlhnlpglbaaDoorR36
import Derived.Test.YtgjemlhnlpglbaaDoorR37
import Derived.Test.YtgjemlhnlpglbaaDoorR38
import Derived.Test.YtgjemlhnlpglbaaDoorR39
namespace Go.Proofs.YtgjemlhnlpglbaaDoor.Forms
open Go.RowKit Go.Proofs.YtgjemlhnlpglbaaDoor.Ident Trees

set_option maxHeartbeats 2000000 in
theorem inForm5 (n : Int) (of s : ByteArray) (ao : Option Addr) (len cap : Nat) (_ : of.size ≤ maxLen) (_ : s.size ≤ maxLen) (hl : len ≤ 4) (w : World) :
    Calls Tryd.prog 91 #[.agg #[.int .i64 5, .int .i64 n, .string of, .string s, .slice ao len cap]] w fun e w' => e = .returned (.bool (exprForm ⟨5, n, of, s, ao, len, cap⟩)) ∧ Below w.heap.size w w' := by
  have hlI : (len : Int) ≤ 4 := by omega
  have hb0 := below1 w (.cells #[.int .i64 5, .int .i64 n, .string of, .string s, .slice ao len cap] 29)
  have E : Hid (exprForm ⟨5, n, of, s, ao, len, cap⟩ = (of.toList == [] && s.toList == [] && decide (len = 2))) := by unfold exprForm; rw [if_neg (by dsimp only; decide), if_neg (by dsimp only; decide), if_neg (by dsimp only; decide), if_neg (by dsimp only; decide)]; exact (rfl : _ = _)
  rcases Bool.eq_false_or_eq_true (of.toList == []) with hof0 | hof0
  · rcases Bool.eq_false_or_eq_true (s.toList == []) with hs0 | hs0
    · by_cases hlen2 : len = 2
      · have dlen2 : decide (len = 2) = true := decide_eq_true hlen2
        subst hlen2
        have R : Hid (_ = true) := E.out.trans (by rw [hof0, hs0, dlen2]; rfl)
        clear E
        go_enter Tryd.func91, Tryd.ntmps91
        go_wp2
        go_ret
        exact ⟨by rw [R.out]; rfl, hb0⟩
      · have dlen2 : decide (len = 2) = false := decide_eq_false hlen2
        have blen2 : ((len : Int) == 2) = false := beq_eq_false_iff_ne.2 (by omega)
        have R : Hid (_ = false) := E.out.trans (by rw [hof0, hs0, dlen2]; rfl)
        clear E hlen2 dlen2
        go_enter Tryd.func91, Tryd.ntmps91
        go_wp2
        go_ret
        exact ⟨by rw [R.out]; rfl, hb0⟩
    · have R : Hid (_ = false) := E.out.trans (by rw [hof0, hs0]; rfl)
      clear E
      go_enter Tryd.func91, Tryd.ntmps91
      go_wp2
      go_ret
      exact ⟨by rw [R.out]; rfl, hb0⟩
  · have R : Hid (_ = false) := E.out.trans (by rw [hof0]; rfl)
    clear E
    go_enter Tryd.func91, Tryd.ntmps91
    go_wp2
    go_ret
    exact ⟨by rw [R.out]; rfl, hb0⟩

end Go.Proofs.YtgjemlhnlpglbaaDoor.Forms

namespace Go.Proofs.YtgjemlhnlpglbaaDoor.Forms
open Go.RowKit Go.Proofs.YtgjemlhnlpglbaaDoor.Ident Trees

theorem inForm (x : ENode) (hk : 1 ≤ x.kind ∧ x.kind ≤ 5) (hof : x.of.size ≤ maxLen) (hs : x.s.size ≤ maxLen) (hl : x.len ≤ 4) (w : World) :
    Calls Tryd.prog 91 #[.agg (ecells x)] w fun e w' => e = .returned (.bool (exprForm x)) ∧ Below w.heap.size w w' := by
  obtain ⟨kind, n, of, s, ao, len, cap⟩ := x
  dsimp only at hk hof hs hl
  rcases (show kind = 1 ∨ kind = 2 ∨ kind = 3 ∨ kind = 4 ∨ kind = 5 by omega) with rfl | rfl | rfl | rfl | rfl
  · exact inForm1 n of s ao len cap hof hs hl w
  · exact inForm2 n of s ao len cap hof hs hl w
  · exact inForm3 n of s ao len cap hof hs hl w
  · exact inForm4 n of s ao len cap hof hs hl w
  · exact inForm5 n of s ao len cap hof hs hl w
end Go.Proofs.YtgjemlhnlpglbaaDoor.Forms
