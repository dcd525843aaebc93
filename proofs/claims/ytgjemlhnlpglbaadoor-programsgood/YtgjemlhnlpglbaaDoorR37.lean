/-
  WHAT tree.exprInForm GIVES, of a kind.
  Conditions: each contract's own hypotheses.
-/
import Derived.Test.YtgjemlhnlpglbaaDoorR31
import Derived.Deep.RegionWith
namespace Go.Proofs.YtgjemlhnlpglbaaDoor.Forms
open Go.RowKit Go.Proofs.YtgjemlhnlpglbaaDoor.Ident Trees

set_option maxHeartbeats 2000000 in
theorem inForm2 (n : Int) (of s : ByteArray) (ao : Option Addr) (len cap : Nat) (_ : of.size ≤ maxLen) (hs : s.size ≤ maxLen) (hl : len ≤ 4) (w : World) :
    Calls Tryd.prog 91 #[.agg #[.int .i64 2, .int .i64 n, .string of, .string s, .slice ao len cap]] w fun e w' => e = .returned (.bool (exprForm ⟨2, n, of, s, ao, len, cap⟩)) ∧ Below w.heap.size w w' := by
  have hlI : (len : Int) ≤ 4 := by omega
  have hb0 := below1 w (.cells #[.int .i64 2, .int .i64 n, .string of, .string s, .slice ao len cap] 29)
  have E : Hid (exprForm ⟨2, n, of, s, ao, len, cap⟩ = (decide (n = 0) && of.toList == [] && identB s && decide (len = 0))) := by unfold exprForm; rw [if_neg (by dsimp only; decide), if_pos rfl]; exact (rfl : _ = _)
  by_cases hn0 : n = 0
  · have dn0 : decide (n = 0) = true := decide_eq_true hn0
    subst hn0
    rcases Bool.eq_false_or_eq_true (of.toList == []) with hof0 | hof0
    · rcases Bool.eq_false_or_eq_true (identB s) with hids | hids
      · have ks : ∀ W, Calls Tryd.prog 53 #[.string s] W fun e w' => e = .returned (.bool true) ∧ Below W.heap.size W w' := fun W => by rw [← hids]; exact ident s hs W
        by_cases hlen0 : len = 0
        · have dlen0 : decide (len = 0) = true := decide_eq_true hlen0
          subst hlen0
          have R : Hid (_ = true) := E.out.trans (by rw [dn0, hof0, hids, dlen0]; rfl)
          clear E
          go_enter Tryd.func91, Tryd.ntmps91
          go_wp2_with (first
              | (go_at_call_of 53 (Value.string s); refine (ks _).mono ?_; rintro e w1 ⟨rfl, hb1⟩; obtain ⟨q0, q1, q2, q3, q4⟩ := box5 hb1; have hc0 := hb0.trans (hb1.mono hb0.size)))
          go_ret
          exact ⟨by rw [R.out]; rfl, hc0⟩
        · have dlen0 : decide (len = 0) = false := decide_eq_false hlen0
          have blen0 : ((len : Int) == 0) = false := beq_eq_false_iff_ne.2 (by omega)
          have R : Hid (_ = false) := E.out.trans (by rw [dn0, hof0, hids, dlen0]; rfl)
          clear E hlen0 dlen0
          go_enter Tryd.func91, Tryd.ntmps91
          go_wp2_with (first
              | (go_at_call_of 53 (Value.string s); refine (ks _).mono ?_; rintro e w1 ⟨rfl, hb1⟩; obtain ⟨q0, q1, q2, q3, q4⟩ := box5 hb1; have hc0 := hb0.trans (hb1.mono hb0.size)))
          go_ret
          exact ⟨by rw [R.out]; rfl, hc0⟩
      · have ks : ∀ W, Calls Tryd.prog 53 #[.string s] W fun e w' => e = .returned (.bool false) ∧ Below W.heap.size W w' := fun W => by rw [← hids]; exact ident s hs W
        have R : Hid (_ = false) := E.out.trans (by rw [dn0, hof0, hids]; rfl)
        clear E
        go_enter Tryd.func91, Tryd.ntmps91
        go_wp2_with (first
            | (go_at_call_of 53 (Value.string s); refine (ks _).mono ?_; rintro e w1 ⟨rfl, hb1⟩; obtain ⟨q0, q1, q2, q3, q4⟩ := box5 hb1; have hc0 := hb0.trans (hb1.mono hb0.size)))
        go_ret
        exact ⟨by rw [R.out]; rfl, hc0⟩
    · have R : Hid (_ = false) := E.out.trans (by rw [dn0, hof0]; rfl)
      clear E
      go_enter Tryd.func91, Tryd.ntmps91
      go_wp2
      go_ret
      exact ⟨by rw [R.out]; rfl, hb0⟩
  · have dn0 : decide (n = 0) = false := decide_eq_false hn0
    have bn0 : (n == 0) = false := beq_eq_false_iff_ne.2 hn0
    have R : Hid (_ = false) := E.out.trans (by rw [dn0]; rfl)
    clear E
    go_enter Tryd.func91, Tryd.ntmps91
    go_wp2
    go_ret
    exact ⟨by rw [R.out]; rfl, hb0⟩

end Go.Proofs.YtgjemlhnlpglbaaDoor.Forms
