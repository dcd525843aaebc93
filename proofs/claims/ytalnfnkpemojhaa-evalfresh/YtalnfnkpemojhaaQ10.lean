/-
  WHAT tree.exprInForm GIVES, of a kind.
  Conditions: each contract's own hypotheses.
  WHAT tree.exprInForm GIVES, of a kind.
  Conditions: each contract's own hypotheses.
  WHAT tree.exprInForm GIVES, of a kind.
  Conditions: each contract's own hypotheses.
  WHAT tree.exprInForm GIVES, for every expression of a kind that there is.
  Conditions: each contract's own hypotheses.
-/
import Derived.Test.YtalnfnkpemojhaaQ5
import Derived.Deep.RegionWith
import Derived.Test.YtalnfnkpemojhaaQ9
namespace Go.Proofs.Ytalnfnkpemojhaa.Forms
open Go.RowKit Go.Proofs.Ytalnfnkpemojhaa.Ident Trees

set_option maxHeartbeats 2000000 in
theorem inForm3 (n : Int) (of s : ByteArray) (ao : Option Addr) (len cap : Nat) (_ : of.size ≤ maxLen) (hs : s.size ≤ maxLen) (hl : len ≤ 4) (w : World) :
    Calls Try.prog 82 #[.agg #[.int .i64 3, .int .i64 n, .string of, .string s, .slice ao len cap]] w fun e w' => e = .returned (.bool (exprForm ⟨3, n, of, s, ao, len, cap⟩)) ∧ Below w.heap.size w w' := by
  have hlI : (len : Int) ≤ 4 := by omega
  have hb0 := below1 w (.cells #[.int .i64 3, .int .i64 n, .string of, .string s, .slice ao len cap] 85)
  have E : Hid (exprForm ⟨3, n, of, s, ao, len, cap⟩ = (decide (n = 0) && of.toList == [] && identB s && decide (len = 1))) := by unfold exprForm; rw [if_neg (by dsimp only; decide), if_neg (by dsimp only; decide), if_pos rfl]; exact (rfl : _ = _)
  by_cases hn0 : n = 0
  · have dn0 : decide (n = 0) = true := decide_eq_true hn0
    subst hn0
    rcases Bool.eq_false_or_eq_true (of.toList == []) with hof0 | hof0
    · rcases Bool.eq_false_or_eq_true (identB s) with hids | hids
      · have ks : ∀ W, Calls Try.prog 51 #[.string s] W fun e w' => e = .returned (.bool true) ∧ Below W.heap.size W w' := fun W => by rw [← hids]; exact ident s hs W
        by_cases hlen1 : len = 1
        · have dlen1 : decide (len = 1) = true := decide_eq_true hlen1
          subst hlen1
          have R : Hid (_ = true) := E.out.trans (by rw [dn0, hof0, hids, dlen1]; rfl)
          clear E
          go_enter Try.func82, Try.ntmps82
          go_wp2_with (first
              | (go_at_call_of 51 (Value.string s); refine (ks _).mono ?_; rintro e w1 ⟨rfl, hb1⟩; obtain ⟨q0, q1, q2, q3, q4⟩ := box5 hb1; have hc0 := hb0.trans (hb1.mono hb0.size)))
          go_ret
          exact ⟨by rw [R.out]; rfl, hc0⟩
        · have dlen1 : decide (len = 1) = false := decide_eq_false hlen1
          have blen1 : ((len : Int) == 1) = false := beq_eq_false_iff_ne.2 (by omega)
          have R : Hid (_ = false) := E.out.trans (by rw [dn0, hof0, hids, dlen1]; rfl)
          clear E hlen1 dlen1
          go_enter Try.func82, Try.ntmps82
          go_wp2_with (first
              | (go_at_call_of 51 (Value.string s); refine (ks _).mono ?_; rintro e w1 ⟨rfl, hb1⟩; obtain ⟨q0, q1, q2, q3, q4⟩ := box5 hb1; have hc0 := hb0.trans (hb1.mono hb0.size)))
          go_ret
          exact ⟨by rw [R.out]; rfl, hc0⟩
      · have ks : ∀ W, Calls Try.prog 51 #[.string s] W fun e w' => e = .returned (.bool false) ∧ Below W.heap.size W w' := fun W => by rw [← hids]; exact ident s hs W
        have R : Hid (_ = false) := E.out.trans (by rw [dn0, hof0, hids]; rfl)
        clear E
        go_enter Try.func82, Try.ntmps82
        go_wp2_with (first
            | (go_at_call_of 51 (Value.string s); refine (ks _).mono ?_; rintro e w1 ⟨rfl, hb1⟩; obtain ⟨q0, q1, q2, q3, q4⟩ := box5 hb1; have hc0 := hb0.trans (hb1.mono hb0.size)))
        go_ret
        exact ⟨by rw [R.out]; rfl, hc0⟩
    · have R : Hid (_ = false) := E.out.trans (by rw [dn0, hof0]; rfl)
      clear E
      go_enter Try.func82, Try.ntmps82
      go_wp2
      go_ret
      exact ⟨by rw [R.out]; rfl, hb0⟩
  · have dn0 : decide (n = 0) = false := decide_eq_false hn0
    have bn0 : (n == 0) = false := beq_eq_false_iff_ne.2 hn0
    have R : Hid (_ = false) := E.out.trans (by rw [dn0]; rfl)
    clear E
    go_enter Try.func82, Try.ntmps82
    go_wp2
    go_ret
    exact ⟨by rw [R.out]; rfl, hb0⟩

end Go.Proofs.Ytalnfnkpemojhaa.Forms

namespace Go.Proofs.Ytalnfnkpemojhaa.Forms
open Go.RowKit Go.Proofs.Ytalnfnkpemojhaa.Ident Trees

set_option maxHeartbeats 2000000 in
theorem inForm4 (n : Int) (of s : ByteArray) (ao : Option Addr) (len cap : Nat) (hof : of.size ≤ maxLen) (hs : s.size ≤ maxLen) (hl : len ≤ 4) (w : World) :
    Calls Try.prog 82 #[.agg #[.int .i64 4, .int .i64 n, .string of, .string s, .slice ao len cap]] w fun e w' => e = .returned (.bool (exprForm ⟨4, n, of, s, ao, len, cap⟩)) ∧ Below w.heap.size w w' := by
  have hlI : (len : Int) ≤ 4 := by omega
  have hb0 := below1 w (.cells #[.int .i64 4, .int .i64 n, .string of, .string s, .slice ao len cap] 85)
  have E : Hid (exprForm ⟨4, n, of, s, ao, len, cap⟩ = (decide (n = 0) && (of.toList == [] || identB of) && identB s)) := by unfold exprForm; rw [if_neg (by dsimp only; decide), if_neg (by dsimp only; decide), if_neg (by dsimp only; decide), if_pos rfl]; exact (rfl : _ = _)
  by_cases hn0 : n = 0
  · have dn0 : decide (n = 0) = true := decide_eq_true hn0
    subst hn0
    rcases Bool.eq_false_or_eq_true (of.toList == []) with hof0 | hof0
    · rcases Bool.eq_false_or_eq_true (identB s) with hids | hids
      · have ks : ∀ W, Calls Try.prog 51 #[.string s] W fun e w' => e = .returned (.bool true) ∧ Below W.heap.size W w' := fun W => by rw [← hids]; exact ident s hs W
        have R : Hid (_ = true) := E.out.trans (by rw [dn0, hof0, hids]; rfl)
        clear E
        go_enter Try.func82, Try.ntmps82
        go_wp2_with (first
            | (go_at_call_of 51 (Value.string s); refine (ks _).mono ?_; rintro e w1 ⟨rfl, hb1⟩; obtain ⟨q0, q1, q2, q3, q4⟩ := box5 hb1; have hc0 := hb0.trans (hb1.mono hb0.size)))
        go_ret
        exact ⟨by rw [R.out]; rfl, hc0⟩
      · have ks : ∀ W, Calls Try.prog 51 #[.string s] W fun e w' => e = .returned (.bool false) ∧ Below W.heap.size W w' := fun W => by rw [← hids]; exact ident s hs W
        have R : Hid (_ = false) := E.out.trans (by rw [dn0, hof0, hids]; rfl)
        clear E
        go_enter Try.func82, Try.ntmps82
        go_wp2_with (first
            | (go_at_call_of 51 (Value.string s); refine (ks _).mono ?_; rintro e w1 ⟨rfl, hb1⟩; obtain ⟨q0, q1, q2, q3, q4⟩ := box5 hb1; have hc0 := hb0.trans (hb1.mono hb0.size)))
        go_ret
        exact ⟨by rw [R.out]; rfl, hc0⟩
    · rcases Bool.eq_false_or_eq_true (identB of) with hidof | hidof
      · have ko : ∀ W, Calls Try.prog 51 #[.string of] W fun e w' => e = .returned (.bool true) ∧ Below W.heap.size W w' := fun W => by rw [← hidof]; exact ident of hof W
        rcases Bool.eq_false_or_eq_true (identB s) with hids | hids
        · have ks : ∀ W, Calls Try.prog 51 #[.string s] W fun e w' => e = .returned (.bool true) ∧ Below W.heap.size W w' := fun W => by rw [← hids]; exact ident s hs W
          have R : Hid (_ = true) := E.out.trans (by rw [dn0, hof0, hidof, hids]; rfl)
          clear E
          go_enter Try.func82, Try.ntmps82
          go_wp2_with (first
              | (go_at_call_of 51 (Value.string of); refine (ko _).mono ?_; rintro e w1 ⟨rfl, hb1⟩; obtain ⟨q0, q1, q2, q3, q4⟩ := box5 hb1; have hc0 := hb0.trans (hb1.mono hb0.size))
              | (go_at_call_of 51 (Value.string s); refine (ks _).mono ?_; rintro e w2 ⟨rfl, hb2⟩; obtain ⟨r0, r1, r2, r3, r4⟩ := box5 (hb1.trans (hb2.mono hb1.size)); have hc1 := hc0.trans (hb2.mono hc0.size)))
          go_ret
          exact ⟨by rw [R.out]; rfl, hc1⟩
        · have ks : ∀ W, Calls Try.prog 51 #[.string s] W fun e w' => e = .returned (.bool false) ∧ Below W.heap.size W w' := fun W => by rw [← hids]; exact ident s hs W
          have R : Hid (_ = false) := E.out.trans (by rw [dn0, hof0, hidof, hids]; rfl)
          clear E
          go_enter Try.func82, Try.ntmps82
          go_wp2_with (first
              | (go_at_call_of 51 (Value.string of); refine (ko _).mono ?_; rintro e w1 ⟨rfl, hb1⟩; obtain ⟨q0, q1, q2, q3, q4⟩ := box5 hb1; have hc0 := hb0.trans (hb1.mono hb0.size))
              | (go_at_call_of 51 (Value.string s); refine (ks _).mono ?_; rintro e w2 ⟨rfl, hb2⟩; obtain ⟨r0, r1, r2, r3, r4⟩ := box5 (hb1.trans (hb2.mono hb1.size)); have hc1 := hc0.trans (hb2.mono hc0.size)))
          go_ret
          exact ⟨by rw [R.out]; rfl, hc1⟩
      · have ko : ∀ W, Calls Try.prog 51 #[.string of] W fun e w' => e = .returned (.bool false) ∧ Below W.heap.size W w' := fun W => by rw [← hidof]; exact ident of hof W
        have R : Hid (_ = false) := E.out.trans (by rw [dn0, hof0, hidof]; rfl)
        clear E
        go_enter Try.func82, Try.ntmps82
        go_wp2_with (first
            | (go_at_call_of 51 (Value.string of); refine (ko _).mono ?_; rintro e w1 ⟨rfl, hb1⟩; obtain ⟨q0, q1, q2, q3, q4⟩ := box5 hb1; have hc0 := hb0.trans (hb1.mono hb0.size)))
        go_ret
        exact ⟨by rw [R.out]; rfl, hc0⟩
  · have dn0 : decide (n = 0) = false := decide_eq_false hn0
    have bn0 : (n == 0) = false := beq_eq_false_iff_ne.2 hn0
    have R : Hid (_ = false) := E.out.trans (by rw [dn0]; rfl)
    clear E
    go_enter Try.func82, Try.ntmps82
    go_wp2
    go_ret
    exact ⟨by rw [R.out]; rfl, hb0⟩

end Go.Proofs.Ytalnfnkpemojhaa.Forms

namespace Go.Proofs.Ytalnfnkpemojhaa.Forms
open Go.RowKit Go.Proofs.Ytalnfnkpemojhaa.Ident Trees

set_option maxHeartbeats 2000000 in
theorem inForm5 (n : Int) (of s : ByteArray) (ao : Option Addr) (len cap : Nat) (_ : of.size ≤ maxLen) (_ : s.size ≤ maxLen) (hl : len ≤ 4) (w : World) :
    Calls Try.prog 82 #[.agg #[.int .i64 5, .int .i64 n, .string of, .string s, .slice ao len cap]] w fun e w' => e = .returned (.bool (exprForm ⟨5, n, of, s, ao, len, cap⟩)) ∧ Below w.heap.size w w' := by
  have hlI : (len : Int) ≤ 4 := by omega
  have hb0 := below1 w (.cells #[.int .i64 5, .int .i64 n, .string of, .string s, .slice ao len cap] 85)
  have E : Hid (exprForm ⟨5, n, of, s, ao, len, cap⟩ = (of.toList == [] && s.toList == [] && decide (len = 2))) := by unfold exprForm; rw [if_neg (by dsimp only; decide), if_neg (by dsimp only; decide), if_neg (by dsimp only; decide), if_neg (by dsimp only; decide)]; exact (rfl : _ = _)
  rcases Bool.eq_false_or_eq_true (of.toList == []) with hof0 | hof0
  · rcases Bool.eq_false_or_eq_true (s.toList == []) with hs0 | hs0
    · by_cases hlen2 : len = 2
      · have dlen2 : decide (len = 2) = true := decide_eq_true hlen2
        subst hlen2
        have R : Hid (_ = true) := E.out.trans (by rw [hof0, hs0, dlen2]; rfl)
        clear E
        go_enter Try.func82, Try.ntmps82
        go_wp2
        go_ret
        exact ⟨by rw [R.out]; rfl, hb0⟩
      · have dlen2 : decide (len = 2) = false := decide_eq_false hlen2
        have blen2 : ((len : Int) == 2) = false := beq_eq_false_iff_ne.2 (by omega)
        have R : Hid (_ = false) := E.out.trans (by rw [hof0, hs0, dlen2]; rfl)
        clear E hlen2 dlen2
        go_enter Try.func82, Try.ntmps82
        go_wp2
        go_ret
        exact ⟨by rw [R.out]; rfl, hb0⟩
    · have R : Hid (_ = false) := E.out.trans (by rw [hof0, hs0]; rfl)
      clear E
      go_enter Try.func82, Try.ntmps82
      go_wp2
      go_ret
      exact ⟨by rw [R.out]; rfl, hb0⟩
  · have R : Hid (_ = false) := E.out.trans (by rw [hof0]; rfl)
    clear E
    go_enter Try.func82, Try.ntmps82
    go_wp2
    go_ret
    exact ⟨by rw [R.out]; rfl, hb0⟩

end Go.Proofs.Ytalnfnkpemojhaa.Forms

namespace Go.Proofs.Ytalnfnkpemojhaa.Forms
open Go.RowKit Go.Proofs.Ytalnfnkpemojhaa.Ident Trees

theorem inForm (x : ENode) (hk : 1 ≤ x.kind ∧ x.kind ≤ 5) (hof : x.of.size ≤ maxLen) (hs : x.s.size ≤ maxLen) (hl : x.len ≤ 4) (w : World) :
    Calls Try.prog 82 #[.agg (ecells x)] w fun e w' => e = .returned (.bool (exprForm x)) ∧ Below w.heap.size w w' := by
  obtain ⟨kind, n, of, s, ao, len, cap⟩ := x
  dsimp only at hk hof hs hl
  rcases (show kind = 1 ∨ kind = 2 ∨ kind = 3 ∨ kind = 4 ∨ kind = 5 by omega) with rfl | rfl | rfl | rfl | rfl
  · exact inForm1 n of s ao len cap hof hs hl w
  · exact inForm2 n of s ao len cap hof hs hl w
  · exact inForm3 n of s ao len cap hof hs hl w
  · exact inForm4 n of s ao len cap hof hs hl w
  · exact inForm5 n of s ao len cap hof hs hl w
end Go.Proofs.Ytalnfnkpemojhaa.Forms
