/-
  WHAT tree.exprInForm GIVES, of a kind.
  Conditions: each contract's own hypotheses.
-/
import Derived.Test.YtgjemlhnlpglbaaDoorR31
import Derived.Deep.RegionWith
namespace Go.Proofs.YtgjemlhnlpglbaaDoor.Forms
open Go.RowKit Go.Proofs.YtgjemlhnlpglbaaDoor.Ident Trees

set_option maxHeartbeats 2000000 in
theorem inForm1 (n : Int) (of s : ByteArray) (ao : Option Addr) (len cap : Nat) (_ : of.size ≤ maxLen) (_ : s.size ≤ maxLen) (hl : len ≤ 4) (w : World) :
    Calls Tryd.prog 91 #[.agg #[.int .i64 1, .int .i64 n, .string of, .string s, .slice ao len cap]] w fun e w' => e = .returned (.bool (exprForm ⟨1, n, of, s, ao, len, cap⟩)) ∧ Below w.heap.size w w' := by
  have hlI : (len : Int) ≤ 4 := by omega
  have hb0 := below1 w (.cells #[.int .i64 1, .int .i64 n, .string of, .string s, .slice ao len cap] 29)
  have E : Hid (exprForm ⟨1, n, of, s, ao, len, cap⟩ = (of.toList == [] && s.toList == [] && decide (len = 0))) := by unfold exprForm; rw [if_pos rfl]; exact (rfl : _ = _)
  rcases Bool.eq_false_or_eq_true (of.toList == []) with hof0 | hof0
  · rcases Bool.eq_false_or_eq_true (s.toList == []) with hs0 | hs0
    · by_cases hlen0 : len = 0
      · have dlen0 : decide (len = 0) = true := decide_eq_true hlen0
        subst hlen0
        have R : Hid (_ = true) := E.out.trans (by rw [hof0, hs0, dlen0]; rfl)
        clear E
        go_enter Tryd.func91, Tryd.ntmps91
        go_wp2
        go_ret
        exact ⟨by rw [R.out]; rfl, hb0⟩
      · have dlen0 : decide (len = 0) = false := decide_eq_false hlen0
        have blen0 : ((len : Int) == 0) = false := beq_eq_false_iff_ne.2 (by omega)
        have R : Hid (_ = false) := E.out.trans (by rw [hof0, hs0, dlen0]; rfl)
        clear E hlen0 dlen0
        go_enter Tryd.func91, Tryd.ntmps91
        go_wp2
        go_ret
        exact ⟨by rw [R.out]; rfl, hb0⟩
    · have R : Hid (_ = false) := E.out.trans (by rw [hof0, hs0]; rfl)
      clear E
      go_enter Tryd.func91, Tryd.ntmps91
      go_wp2
      go_ret
      exact ⟨by rw [R.out]; rfl, hb0⟩
  · have R : Hid (_ = false) := E.out.trans (by rw [hof0]; rfl)
    clear E
    go_enter Tryd.func91, Tryd.ntmps91
    go_wp2
    go_ret
    exact ⟨by rw [R.out]; rfl, hb0⟩

end Go.Proofs.YtgjemlhnlpglbaaDoor.Forms
