/-
  WHAT tree.exprInForm GIVES, of a kind.
  Conditions: each contract's own hypotheses.
-/
import Derived.Test.YtbndggpnlncpbadForms
import Derived.Deep.RegionWith
namespace Go.Proofs.Ytbndggpnlncpbad.Forms
open Go.RowKit Go.Proofs.Ytbndggpnlncpbad.Ident Trees

set_option maxHeartbeats 2000000 in
theorem inForm5 (n : Int) (of s : ByteArray) (ao : Option Addr) (len cap : Nat) (_ : of.size ≤ maxLen) (_ : s.size ≤ maxLen) (hl : len ≤ 4) (w : World) :
    Calls Try.prog 58 #[.agg #[.int .i64 5, .int .i64 n, .string of, .string s, .slice ao len cap]] w fun e w' => e = .returned (.bool (exprForm ⟨5, n, of, s, ao, len, cap⟩)) ∧ Below w.heap.size w w' := by
  have hlI : (len : Int) ≤ 4 := by omega
  have hb0 := below1 w (.cells #[.int .i64 5, .int .i64 n, .string of, .string s, .slice ao len cap] 81)
  have E : Hid (exprForm ⟨5, n, of, s, ao, len, cap⟩ = (of.toList == [] && s.toList == [] && decide (len = 2))) := by unfold exprForm; rw [if_neg (by dsimp only; decide), if_neg (by dsimp only; decide), if_neg (by dsimp only; decide), if_neg (by dsimp only; decide)]; exact (rfl : _ = _)
  rcases Bool.eq_false_or_eq_true (of.toList == []) with hof0 | hof0
  · rcases Bool.eq_false_or_eq_true (s.toList == []) with hs0 | hs0
    · by_cases hlen2 : len = 2
      · have dlen2 : decide (len = 2) = true := decide_eq_true hlen2
        subst hlen2
        have R : Hid (_ = true) := E.out.trans (by rw [hof0, hs0, dlen2]; rfl)
        clear E
        go_enter Try.func58, Try.ntmps58
        go_wp2
        go_ret
        exact ⟨by rw [R.out]; rfl, hb0⟩
      · have dlen2 : decide (len = 2) = false := decide_eq_false hlen2
        have blen2 : ((len : Int) == 2) = false := beq_eq_false_iff_ne.2 (by omega)
        have R : Hid (_ = false) := E.out.trans (by rw [hof0, hs0, dlen2]; rfl)
        clear E hlen2 dlen2
        go_enter Try.func58, Try.ntmps58
        go_wp2
        go_ret
        exact ⟨by rw [R.out]; rfl, hb0⟩
    · have R : Hid (_ = false) := E.out.trans (by rw [hof0, hs0]; rfl)
      clear E
      go_enter Try.func58, Try.ntmps58
      go_wp2
      go_ret
      exact ⟨by rw [R.out]; rfl, hb0⟩
  · have R : Hid (_ = false) := E.out.trans (by rw [hof0]; rfl)
    clear E
    go_enter Try.func58, Try.ntmps58
    go_wp2
    go_ret
    exact ⟨by rw [R.out]; rfl, hb0⟩

end Go.Proofs.Ytbndggpnlncpbad.Forms
