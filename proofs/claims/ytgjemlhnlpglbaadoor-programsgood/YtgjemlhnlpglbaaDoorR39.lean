/-
  WHAT tree.exprInForm GIVES, of a kind.
  Conditions: each contract's own hypotheses.
-/
import Derived.Test.YtgjemlhnlpglbaaDoorR31
import Derived.Deep.RegionWith
namespace Go.Proofs.YtgjemlhnlpglbaaDoor.Forms
open Go.RowKit Go.Proofs.YtgjemlhnlpglbaaDoor.Ident Trees

set_option maxHeartbeats 2000000 in
theorem inForm4 (n : Int) (of s : ByteArray) (ao : Option Addr) (len cap : Nat) (hof : of.size ≤ maxLen) (hs : s.size ≤ maxLen) (hl : len ≤ 4) (w : World) :
    Calls Tryd.prog 91 #[.agg #[.int .i64 4, .int .i64 n, .string of, .string s, .slice ao len cap]] w fun e w' => e = .returned (.bool (exprForm ⟨4, n, of, s, ao, len, cap⟩)) ∧ Below w.heap.size w w' := by
  have hlI : (len : Int) ≤ 4 := by omega
  have hb0 := below1 w (.cells #[.int .i64 4, .int .i64 n, .string of, .string s, .slice ao len cap] 29)
  have E : Hid (exprForm ⟨4, n, of, s, ao, len, cap⟩ = (decide (n = 0) && (of.toList == [] || identB of) && identB s)) := by unfold exprForm; rw [if_neg (by dsimp only; decide), if_neg (by dsimp only; decide), if_neg (by dsimp only; decide), if_pos rfl]; exact (rfl : _ = _)
  by_cases hn0 : n = 0
  · have dn0 : decide (n = 0) = true := decide_eq_true hn0
    subst hn0
    rcases Bool.eq_false_or_eq_true (of.toList == []) with hof0 | hof0
    · rcases Bool.eq_false_or_eq_true (identB s) with hids | hids
      · have ks : ∀ W, Calls Tryd.prog 53 #[.string s] W fun e w' => e = .returned (.bool true) ∧ Below W.heap.size W w' := fun W => by rw [← hids]; exact ident s hs W
        have R : Hid (_ = true) := E.out.trans (by rw [dn0, hof0, hids]; rfl)
        clear E
        go_enter Tryd.func91, Tryd.ntmps91
        go_wp2_with (first
            | (go_at_call_of 53 (Value.string s); refine (ks _).mono ?_; rintro e w1 ⟨rfl, hb1⟩; obtain ⟨q0, q1, q2, q3, q4⟩ := box5 hb1; have hc0 := hb0.trans (hb1.mono hb0.size)))
        go_ret
        exact ⟨by rw [R.out]; rfl, hc0⟩
      · have ks : ∀ W, Calls Tryd.prog 53 #[.string s] W fun e w' => e = .returned (.bool false) ∧ Below W.heap.size W w' := fun W => by rw [← hids]; exact ident s hs W
        have R : Hid (_ = false) := E.out.trans (by rw [dn0, hof0, hids]; rfl)
        clear E
        go_enter Tryd.func91, Tryd.ntmps91
        go_wp2_with (first
            | (go_at_call_of 53 (Value.string s); refine (ks _).mono ?_; rintro e w1 ⟨rfl, hb1⟩; obtain ⟨q0, q1, q2, q3, q4⟩ := box5 hb1; have hc0 := hb0.trans (hb1.mono hb0.size)))
        go_ret
        exact ⟨by rw [R.out]; rfl, hc0⟩
    · rcases Bool.eq_false_or_eq_true (identB of) with hidof | hidof
      · have ko : ∀ W, Calls Tryd.prog 53 #[.string of] W fun e w' => e = .returned (.bool true) ∧ Below W.heap.size W w' := fun W => by rw [← hidof]; exact ident of hof W
        rcases Bool.eq_false_or_eq_true (identB s) with hids | hids
        · have ks : ∀ W, Calls Tryd.prog 53 #[.string s] W fun e w' => e = .returned (.bool true) ∧ Below W.heap.size W w' := fun W => by rw [← hids]; exact ident s hs W
          have R : Hid (_ = true) := E.out.trans (by rw [dn0, hof0, hidof, hids]; rfl)
          clear E
          go_enter Tryd.func91, Tryd.ntmps91
          go_wp2_with (first
              | (go_at_call_of 53 (Value.string of); refine (ko _).mono ?_; rintro e w1 ⟨rfl, hb1⟩; obtain ⟨q0, q1, q2, q3, q4⟩ := box5 hb1; have hc0 := hb0.trans (hb1.mono hb0.size))
              | (go_at_call_of 53 (Value.string s); refine (ks _).mono ?_; rintro e w2 ⟨rfl, hb2⟩; obtain ⟨r0, r1, r2, r3, r4⟩ := box5 (hb1.trans (hb2.mono hb1.size)); have hc1 := hc0.trans (hb2.mono hc0.size)))
          go_ret
          exact ⟨by rw [R.out]; rfl, hc1⟩
        · have ks : ∀ W, Calls Tryd.prog 53 #[.string s] W fun e w' => e = .returned (.bool false) ∧ Below W.heap.size W w' := fun W => by rw [← hids]; exact ident s hs W
          have R : Hid (_ = false) := E.out.trans (by rw [dn0, hof0, hidof, hids]; rfl)
          clear E
          go_enter Tryd.func91, Tryd.ntmps91
          go_wp2_with (first
              | (go_at_call_of 53 (Value.string of); refine (ko _).mono ?_; rintro e w1 ⟨rfl, hb1⟩; obtain ⟨q0, q1, q2, q3, q4⟩ := box5 hb1; have hc0 := hb0.trans (hb1.mono hb0.size))
              | (go_at_call_of 53 (Value.string s); refine (ks _).mono ?_; rintro e w2 ⟨rfl, hb2⟩; obtain ⟨r0, r1, r2, r3, r4⟩ := box5 (hb1.trans (hb2.mono hb1.size)); have hc1 := hc0.trans (hb2.mono hc0.size)))
          go_ret
          exact ⟨by rw [R.out]; rfl, hc1⟩
      · have ko : ∀ W, Calls Tryd.prog 53 #[.string of] W fun e w' => e = .returned (.bool false) ∧ Below W.heap.size W w' := fun W => by rw [← hidof]; exact ident of hof W
        have R : Hid (_ = false) := E.out.trans (by rw [dn0, hof0, hidof]; rfl)
        clear E
        go_enter Tryd.func91, Tryd.ntmps91
        go_wp2_with (first
            | (go_at_call_of 53 (Value.string of); refine (ko _).mono ?_; rintro e w1 ⟨rfl, hb1⟩; obtain ⟨q0, q1, q2, q3, q4⟩ := box5 hb1; have hc0 := hb0.trans (hb1.mono hb0.size)))
        go_ret
        exact ⟨by rw [R.out]; rfl, hc0⟩
  · have dn0 : decide (n = 0) = false := decide_eq_false hn0
    have bn0 : (n == 0) = false := beq_eq_false_iff_ne.2 hn0
    have R : Hid (_ = false) := E.out.trans (by rw [dn0]; rfl)
    clear E
    go_enter Tryd.func91, Tryd.ntmps91
    go_wp2
    go_ret
    exact ⟨by rw [R.out]; rfl, hb0⟩

end Go.Proofs.YtgjemlhnlpglbaaDoor.Forms
