/-
  WHAT tree.stmtInForm GIVES, for every statement of a kind that there is.
  Conditions: each contract's own hypotheses.
-/
import Derived.Test.YtgjemlhnlpglbaaDoorR31
namespace Go.Proofs.YtgjemlhnlpglbaaDoor.StmtForm
open Go.RowKit Go.Proofs.YtgjemlhnlpglbaaDoor.Ident Trees Forms

set_option maxHeartbeats 2000000 in
theorem stmt1 (s : ByteArray) (ea : Option Addr) (el ec : Nat) (ex : Nat → ETree) (ba : Option Addr) (bl bc : Nat) (la : Option Addr) (ll lc : Nat) (hs : s.size ≤ maxLen) (h1 : (el : Int) ≤ 9223372036854775807) (h2 : (bl : Int) ≤ 9223372036854775807) (h3 : (ll : Int) ≤ 9223372036854775807) (w : World) :
    Calls Tryd.prog 81 #[.agg #[.int .i64 1, .string s, .slice ea el ec, .slice ba bl bc, .slice la ll lc]] w fun e w' => e = .returned (.bool (stmtForm ⟨1, s, ea, el, ec, ex, ba, bl, bc, la, ll, lc⟩)) ∧ Below w.heap.size w w' := by
  have hb0 := below1 w (.cells #[.int .i64 1, .string s, .slice ea el ec, .slice ba bl bc, .slice la ll lc] 34)
  have E : Hid (stmtForm ⟨1, s, ea, el, ec, ex, ba, bl, bc, la, ll, lc⟩ = (identB s && decide (el = 1) && decide (bl = 0) && decide (ll = 0))) := (show stmtForm ⟨1, s, ea, el, ec, ex, ba, bl, bc, la, ll, lc⟩ = (identB s && decide (el = 1) && decide (bl = 0) && decide (ll = 0)) by simp [stmtForm])
  rcases Bool.eq_false_or_eq_true (identB s) with hids | hids
  · have ks : ∀ W, Calls Tryd.prog 53 #[.string s] W fun e w' => e = .returned (.bool true) ∧ Below W.heap.size W w' := fun W => by rw [← hids]; exact ident s hs W
    by_cases hel1 : el = 1
    · have del1 : decide (el = 1) = true := decide_eq_true hel1
      subst hel1
      by_cases hbl0 : bl = 0
      · have dbl0 : decide (bl = 0) = true := decide_eq_true hbl0
        subst hbl0
        by_cases hll0 : ll = 0
        · have dll0 : decide (ll = 0) = true := decide_eq_true hll0
          subst hll0
          have R : Hid (_ = true) := E.out.trans (by rw [hids, del1, dbl0]; rfl)
          clear E
          go_enter Tryd.func81, Tryd.ntmps81
          go_wp2_with (go_at_call 53; refine (ks _).mono ?_; rintro e w1 ⟨rfl, hb1⟩; obtain ⟨q0, q1, q2, q3, q4⟩ := box5 hb1; have hc0 := hb0.trans (hb1.mono hb0.size))
          go_ret
          exact ⟨by rw [R.out]; rfl, hc0⟩
        · have dll0 : decide (ll = 0) = false := decide_eq_false hll0
          have bll0 : ((ll : Int) == 0) = false := beq_eq_false_iff_ne.2 (by omega)
          have R : Hid (_ = false) := E.out.trans (by rw [hids, del1, dbl0, dll0]; rfl)
          clear E hll0 dll0
          go_enter Tryd.func81, Tryd.ntmps81
          go_wp2_with (go_at_call 53; refine (ks _).mono ?_; rintro e w1 ⟨rfl, hb1⟩; obtain ⟨q0, q1, q2, q3, q4⟩ := box5 hb1; have hc0 := hb0.trans (hb1.mono hb0.size))
          go_ret
          exact ⟨by rw [R.out]; rfl, hc0⟩
      · have dbl0 : decide (bl = 0) = false := decide_eq_false hbl0
        have bbl0 : ((bl : Int) == 0) = false := beq_eq_false_iff_ne.2 (by omega)
        have R : Hid (_ = false) := E.out.trans (by rw [hids, del1, dbl0]; rfl)
        clear E hbl0 dbl0
        go_enter Tryd.func81, Tryd.ntmps81
        go_wp2_with (go_at_call 53; refine (ks _).mono ?_; rintro e w1 ⟨rfl, hb1⟩; obtain ⟨q0, q1, q2, q3, q4⟩ := box5 hb1; have hc0 := hb0.trans (hb1.mono hb0.size))
        go_ret
        exact ⟨by rw [R.out]; rfl, hc0⟩
    · have del1 : decide (el = 1) = false := decide_eq_false hel1
      have bel1 : ((el : Int) == 1) = false := beq_eq_false_iff_ne.2 (by omega)
      have R : Hid (_ = false) := E.out.trans (by rw [hids, del1]; rfl)
      clear E hel1 del1
      go_enter Tryd.func81, Tryd.ntmps81
      go_wp2_with (go_at_call 53; refine (ks _).mono ?_; rintro e w1 ⟨rfl, hb1⟩; obtain ⟨q0, q1, q2, q3, q4⟩ := box5 hb1; have hc0 := hb0.trans (hb1.mono hb0.size))
      go_ret
      exact ⟨by rw [R.out]; rfl, hc0⟩
  · have ks : ∀ W, Calls Tryd.prog 53 #[.string s] W fun e w' => e = .returned (.bool false) ∧ Below W.heap.size W w' := fun W => by rw [← hids]; exact ident s hs W
    have R : Hid (_ = false) := E.out.trans (by rw [hids]; rfl)
    clear E
    go_enter Tryd.func81, Tryd.ntmps81
    go_wp2_with (go_at_call 53; refine (ks _).mono ?_; rintro e w1 ⟨rfl, hb1⟩; obtain ⟨q0, q1, q2, q3, q4⟩ := box5 hb1; have hc0 := hb0.trans (hb1.mono hb0.size))
    go_ret
    exact ⟨by rw [R.out]; rfl, hc0⟩

set_option maxHeartbeats 2000000 in
theorem stmt2 (s : ByteArray) (ea : Option Addr) (el ec : Nat) (ex : Nat → ETree) (ba : Option Addr) (bl bc : Nat) (la : Option Addr) (ll lc : Nat) (hs : s.size ≤ maxLen) (h1 : (el : Int) ≤ 9223372036854775807) (h2 : (bl : Int) ≤ 9223372036854775807) (h3 : (ll : Int) ≤ 9223372036854775807) (w : World) :
    Calls Tryd.prog 81 #[.agg #[.int .i64 2, .string s, .slice ea el ec, .slice ba bl bc, .slice la ll lc]] w fun e w' => e = .returned (.bool (stmtForm ⟨2, s, ea, el, ec, ex, ba, bl, bc, la, ll, lc⟩)) ∧ Below w.heap.size w w' := by
  have hb0 := below1 w (.cells #[.int .i64 2, .string s, .slice ea el ec, .slice ba bl bc, .slice la ll lc] 34)
  have E : Hid (stmtForm ⟨2, s, ea, el, ec, ex, ba, bl, bc, la, ll, lc⟩ = (identB s && decide (el = 2) && decide (bl = 0) && decide (ll = 0))) := (show stmtForm ⟨2, s, ea, el, ec, ex, ba, bl, bc, la, ll, lc⟩ = (identB s && decide (el = 2) && decide (bl = 0) && decide (ll = 0)) by simp [stmtForm])
  rcases Bool.eq_false_or_eq_true (identB s) with hids | hids
  · have ks : ∀ W, Calls Tryd.prog 53 #[.string s] W fun e w' => e = .returned (.bool true) ∧ Below W.heap.size W w' := fun W => by rw [← hids]; exact ident s hs W
    by_cases hel2 : el = 2
    · have del2 : decide (el = 2) = true := decide_eq_true hel2
      subst hel2
      by_cases hbl0 : bl = 0
      · have dbl0 : decide (bl = 0) = true := decide_eq_true hbl0
        subst hbl0
        by_cases hll0 : ll = 0
        · have dll0 : decide (ll = 0) = true := decide_eq_true hll0
          subst hll0
          have R : Hid (_ = true) := E.out.trans (by rw [hids, del2, dbl0]; rfl)
          clear E
          go_enter Tryd.func81, Tryd.ntmps81
          go_wp2_with (go_at_call 53; refine (ks _).mono ?_; rintro e w1 ⟨rfl, hb1⟩; obtain ⟨q0, q1, q2, q3, q4⟩ := box5 hb1; have hc0 := hb0.trans (hb1.mono hb0.size))
          go_ret
          exact ⟨by rw [R.out]; rfl, hc0⟩
        · have dll0 : decide (ll = 0) = false := decide_eq_false hll0
          have bll0 : ((ll : Int) == 0) = false := beq_eq_false_iff_ne.2 (by omega)
          have R : Hid (_ = false) := E.out.trans (by rw [hids, del2, dbl0, dll0]; rfl)
          clear E hll0 dll0
          go_enter Tryd.func81, Tryd.ntmps81
          go_wp2_with (go_at_call 53; refine (ks _).mono ?_; rintro e w1 ⟨rfl, hb1⟩; obtain ⟨q0, q1, q2, q3, q4⟩ := box5 hb1; have hc0 := hb0.trans (hb1.mono hb0.size))
          go_ret
          exact ⟨by rw [R.out]; rfl, hc0⟩
      · have dbl0 : decide (bl = 0) = false := decide_eq_false hbl0
        have bbl0 : ((bl : Int) == 0) = false := beq_eq_false_iff_ne.2 (by omega)
        have R : Hid (_ = false) := E.out.trans (by rw [hids, del2, dbl0]; rfl)
        clear E hbl0 dbl0
        go_enter Tryd.func81, Tryd.ntmps81
        go_wp2_with (go_at_call 53; refine (ks _).mono ?_; rintro e w1 ⟨rfl, hb1⟩; obtain ⟨q0, q1, q2, q3, q4⟩ := box5 hb1; have hc0 := hb0.trans (hb1.mono hb0.size))
        go_ret
        exact ⟨by rw [R.out]; rfl, hc0⟩
    · have del2 : decide (el = 2) = false := decide_eq_false hel2
      have bel2 : ((el : Int) == 2) = false := beq_eq_false_iff_ne.2 (by omega)
      have R : Hid (_ = false) := E.out.trans (by rw [hids, del2]; rfl)
      clear E hel2 del2
      go_enter Tryd.func81, Tryd.ntmps81
      go_wp2_with (go_at_call 53; refine (ks _).mono ?_; rintro e w1 ⟨rfl, hb1⟩; obtain ⟨q0, q1, q2, q3, q4⟩ := box5 hb1; have hc0 := hb0.trans (hb1.mono hb0.size))
      go_ret
      exact ⟨by rw [R.out]; rfl, hc0⟩
  · have ks : ∀ W, Calls Tryd.prog 53 #[.string s] W fun e w' => e = .returned (.bool false) ∧ Below W.heap.size W w' := fun W => by rw [← hids]; exact ident s hs W
    have R : Hid (_ = false) := E.out.trans (by rw [hids]; rfl)
    clear E
    go_enter Tryd.func81, Tryd.ntmps81
    go_wp2_with (go_at_call 53; refine (ks _).mono ?_; rintro e w1 ⟨rfl, hb1⟩; obtain ⟨q0, q1, q2, q3, q4⟩ := box5 hb1; have hc0 := hb0.trans (hb1.mono hb0.size))
    go_ret
    exact ⟨by rw [R.out]; rfl, hc0⟩

set_option maxHeartbeats 2000000 in
theorem stmt3 (s : ByteArray) (ea : Option Addr) (el ec : Nat) (ex : Nat → ETree) (ba : Option Addr) (bl bc : Nat) (la : Option Addr) (ll lc : Nat) (_ : s.size ≤ maxLen) (h1 : (el : Int) ≤ 9223372036854775807) (_ : (bl : Int) ≤ 9223372036854775807) (_ : (ll : Int) ≤ 9223372036854775807) (w : World) :
    Calls Tryd.prog 81 #[.agg #[.int .i64 3, .string s, .slice ea el ec, .slice ba bl bc, .slice la ll lc]] w fun e w' => e = .returned (.bool (stmtForm ⟨3, s, ea, el, ec, ex, ba, bl, bc, la, ll, lc⟩)) ∧ Below w.heap.size w w' := by
  have hb0 := below1 w (.cells #[.int .i64 3, .string s, .slice ea el ec, .slice ba bl bc, .slice la ll lc] 34)
  have E : Hid (stmtForm ⟨3, s, ea, el, ec, ex, ba, bl, bc, la, ll, lc⟩ = ((s.toList == []) && decide (el = 1))) := (show stmtForm ⟨3, s, ea, el, ec, ex, ba, bl, bc, la, ll, lc⟩ = ((s.toList == []) && decide (el = 1)) by simp [stmtForm])
  rcases Bool.eq_false_or_eq_true (s.toList == []) with hs0 | hs0
  · by_cases hel1 : el = 1
    · have del1 : decide (el = 1) = true := decide_eq_true hel1
      subst hel1
      have R : Hid (_ = true) := E.out.trans (by rw [hs0, del1]; rfl)
      clear E
      go_enter Tryd.func81, Tryd.ntmps81
      go_wp2
      go_ret
      exact ⟨by rw [R.out]; rfl, hb0⟩
    · have del1 : decide (el = 1) = false := decide_eq_false hel1
      have bel1 : ((el : Int) == 1) = false := beq_eq_false_iff_ne.2 (by omega)
      have R : Hid (_ = false) := E.out.trans (by rw [hs0, del1]; rfl)
      clear E hel1 del1
      go_enter Tryd.func81, Tryd.ntmps81
      go_wp2
      go_ret
      exact ⟨by rw [R.out]; rfl, hb0⟩
  · have R : Hid (_ = false) := E.out.trans (by rw [hs0]; rfl)
    clear E
    go_enter Tryd.func81, Tryd.ntmps81
    go_wp2
    go_ret
    exact ⟨by rw [R.out]; rfl, hb0⟩

set_option maxHeartbeats 2000000 in
theorem stmt4 (s : ByteArray) (ea : Option Addr) (el ec : Nat) (ex : Nat → ETree) (ba : Option Addr) (bl bc : Nat) (la : Option Addr) (ll lc : Nat) (_ : s.size ≤ maxLen) (h1 : (el : Int) ≤ 9223372036854775807) (_ : (bl : Int) ≤ 9223372036854775807) (h3 : (ll : Int) ≤ 9223372036854775807) (w : World) :
    Calls Tryd.prog 81 #[.agg #[.int .i64 4, .string s, .slice ea el ec, .slice ba bl bc, .slice la ll lc]] w fun e w' => e = .returned (.bool (stmtForm ⟨4, s, ea, el, ec, ex, ba, bl, bc, la, ll, lc⟩)) ∧ Below w.heap.size w w' := by
  have hb0 := below1 w (.cells #[.int .i64 4, .string s, .slice ea el ec, .slice ba bl bc, .slice la ll lc] 34)
  have E : Hid (stmtForm ⟨4, s, ea, el, ec, ex, ba, bl, bc, la, ll, lc⟩ = ((s.toList == []) && decide (el = 1) && decide (ll = 0))) := (show stmtForm ⟨4, s, ea, el, ec, ex, ba, bl, bc, la, ll, lc⟩ = ((s.toList == []) && decide (el = 1) && decide (ll = 0)) by simp [stmtForm])
  rcases Bool.eq_false_or_eq_true (s.toList == []) with hs0 | hs0
  · by_cases hel1 : el = 1
    · have del1 : decide (el = 1) = true := decide_eq_true hel1
      subst hel1
      by_cases hll0 : ll = 0
      · have dll0 : decide (ll = 0) = true := decide_eq_true hll0
        subst hll0
        have R : Hid (_ = true) := E.out.trans (by rw [hs0, del1, dll0]; rfl)
        clear E
        go_enter Tryd.func81, Tryd.ntmps81
        go_wp2
        go_ret
        exact ⟨by rw [R.out]; rfl, hb0⟩
      · have dll0 : decide (ll = 0) = false := decide_eq_false hll0
        have bll0 : ((ll : Int) == 0) = false := beq_eq_false_iff_ne.2 (by omega)
        have R : Hid (_ = false) := E.out.trans (by rw [hs0, del1, dll0]; rfl)
        clear E hll0 dll0
        go_enter Tryd.func81, Tryd.ntmps81
        go_wp2
        go_ret
        exact ⟨by rw [R.out]; rfl, hb0⟩
    · have del1 : decide (el = 1) = false := decide_eq_false hel1
      have bel1 : ((el : Int) == 1) = false := beq_eq_false_iff_ne.2 (by omega)
      have R : Hid (_ = false) := E.out.trans (by rw [hs0, del1]; rfl)
      clear E hel1 del1
      go_enter Tryd.func81, Tryd.ntmps81
      go_wp2
      go_ret
      exact ⟨by rw [R.out]; rfl, hb0⟩
  · have R : Hid (_ = false) := E.out.trans (by rw [hs0]; rfl)
    clear E
    go_enter Tryd.func81, Tryd.ntmps81
    go_wp2
    go_ret
    exact ⟨by rw [R.out]; rfl, hb0⟩

set_option maxHeartbeats 2000000 in
theorem stmt5 (s : ByteArray) (ea : Option Addr) (el ec : Nat) (ex : Nat → ETree) (ba : Option Addr) (bl bc : Nat) (la : Option Addr) (ll lc : Nat) (_ : s.size ≤ maxLen) (h1 : (el : Int) ≤ 9223372036854775807) (h2 : (bl : Int) ≤ 9223372036854775807) (h3 : (ll : Int) ≤ 9223372036854775807) (w : World) :
    Calls Tryd.prog 81 #[.agg #[.int .i64 5, .string s, .slice ea el ec, .slice ba bl bc, .slice la ll lc]] w fun e w' => e = .returned (.bool (stmtForm ⟨5, s, ea, el, ec, ex, ba, bl, bc, la, ll, lc⟩)) ∧ Below w.heap.size w w' := by
  have hb0 := below1 w (.cells #[.int .i64 5, .string s, .slice ea el ec, .slice ba bl bc, .slice la ll lc] 34)
  have E : Hid (stmtForm ⟨5, s, ea, el, ec, ex, ba, bl, bc, la, ll, lc⟩ = ((s.toList == []) && decide (el = 1) && decide (bl = 0) && decide (ll = 0))) := (show stmtForm ⟨5, s, ea, el, ec, ex, ba, bl, bc, la, ll, lc⟩ = ((s.toList == []) && decide (el = 1) && decide (bl = 0) && decide (ll = 0)) by simp [stmtForm])
  rcases Bool.eq_false_or_eq_true (s.toList == []) with hs0 | hs0
  · by_cases hel1 : el = 1
    · have del1 : decide (el = 1) = true := decide_eq_true hel1
      subst hel1
      by_cases hbl0 : bl = 0
      · have dbl0 : decide (bl = 0) = true := decide_eq_true hbl0
        subst hbl0
        by_cases hll0 : ll = 0
        · have dll0 : decide (ll = 0) = true := decide_eq_true hll0
          subst hll0
          have R : Hid (_ = true) := E.out.trans (by rw [hs0, del1, dbl0]; rfl)
          clear E
          go_enter Tryd.func81, Tryd.ntmps81
          go_wp2
          go_ret
          exact ⟨by rw [R.out]; rfl, hb0⟩
        · have dll0 : decide (ll = 0) = false := decide_eq_false hll0
          have bll0 : ((ll : Int) == 0) = false := beq_eq_false_iff_ne.2 (by omega)
          have R : Hid (_ = false) := E.out.trans (by rw [hs0, del1, dbl0, dll0]; rfl)
          clear E hll0 dll0
          go_enter Tryd.func81, Tryd.ntmps81
          go_wp2
          go_ret
          exact ⟨by rw [R.out]; rfl, hb0⟩
      · have dbl0 : decide (bl = 0) = false := decide_eq_false hbl0
        have bbl0 : ((bl : Int) == 0) = false := beq_eq_false_iff_ne.2 (by omega)
        have R : Hid (_ = false) := E.out.trans (by rw [hs0, del1, dbl0]; rfl)
        clear E hbl0 dbl0
        go_enter Tryd.func81, Tryd.ntmps81
        go_wp2
        go_ret
        exact ⟨by rw [R.out]; rfl, hb0⟩
    · have del1 : decide (el = 1) = false := decide_eq_false hel1
      have bel1 : ((el : Int) == 1) = false := beq_eq_false_iff_ne.2 (by omega)
      have R : Hid (_ = false) := E.out.trans (by rw [hs0, del1]; rfl)
      clear E hel1 del1
      go_enter Tryd.func81, Tryd.ntmps81
      go_wp2
      go_ret
      exact ⟨by rw [R.out]; rfl, hb0⟩
  · have R : Hid (_ = false) := E.out.trans (by rw [hs0]; rfl)
    clear E
    go_enter Tryd.func81, Tryd.ntmps81
    go_wp2
    go_ret
    exact ⟨by rw [R.out]; rfl, hb0⟩

set_option maxHeartbeats 2000000 in
theorem stmt6 (s : ByteArray) (ea : Option Addr) (el ec : Nat) (ex : Nat → ETree) (ba : Option Addr) (bl bc : Nat) (la : Option Addr) (ll lc : Nat) (_ : s.size ≤ maxLen) (h1 : (el : Int) ≤ 9223372036854775807) (h2 : (bl : Int) ≤ 9223372036854775807) (h3 : (ll : Int) ≤ 9223372036854775807) (w : World) :
    Calls Tryd.prog 81 #[.agg #[.int .i64 6, .string s, .slice ea el ec, .slice ba bl bc, .slice la ll lc]] w fun e w' => e = .returned (.bool (stmtForm ⟨6, s, ea, el, ec, ex, ba, bl, bc, la, ll, lc⟩)) ∧ Below w.heap.size w w' := by
  have hb0 := below1 w (.cells #[.int .i64 6, .string s, .slice ea el ec, .slice ba bl bc, .slice la ll lc] 34)
  have E : Hid (stmtForm ⟨6, s, ea, el, ec, ex, ba, bl, bc, la, ll, lc⟩ = ((s.toList == []) && decide (el = 1) && decide (bl = 0) && decide (ll = 0))) := (show stmtForm ⟨6, s, ea, el, ec, ex, ba, bl, bc, la, ll, lc⟩ = ((s.toList == []) && decide (el = 1) && decide (bl = 0) && decide (ll = 0)) by simp [stmtForm])
  rcases Bool.eq_false_or_eq_true (s.toList == []) with hs0 | hs0
  · by_cases hel1 : el = 1
    · have del1 : decide (el = 1) = true := decide_eq_true hel1
      subst hel1
      by_cases hbl0 : bl = 0
      · have dbl0 : decide (bl = 0) = true := decide_eq_true hbl0
        subst hbl0
        by_cases hll0 : ll = 0
        · have dll0 : decide (ll = 0) = true := decide_eq_true hll0
          subst hll0
          have R : Hid (_ = true) := E.out.trans (by rw [hs0, del1, dbl0]; rfl)
          clear E
          go_enter Tryd.func81, Tryd.ntmps81
          go_wp2
          go_ret
          exact ⟨by rw [R.out]; rfl, hb0⟩
        · have dll0 : decide (ll = 0) = false := decide_eq_false hll0
          have bll0 : ((ll : Int) == 0) = false := beq_eq_false_iff_ne.2 (by omega)
          have R : Hid (_ = false) := E.out.trans (by rw [hs0, del1, dbl0, dll0]; rfl)
          clear E hll0 dll0
          go_enter Tryd.func81, Tryd.ntmps81
          go_wp2
          go_ret
          exact ⟨by rw [R.out]; rfl, hb0⟩
      · have dbl0 : decide (bl = 0) = false := decide_eq_false hbl0
        have bbl0 : ((bl : Int) == 0) = false := beq_eq_false_iff_ne.2 (by omega)
        have R : Hid (_ = false) := E.out.trans (by rw [hs0, del1, dbl0]; rfl)
        clear E hbl0 dbl0
        go_enter Tryd.func81, Tryd.ntmps81
        go_wp2
        go_ret
        exact ⟨by rw [R.out]; rfl, hb0⟩
    · have del1 : decide (el = 1) = false := decide_eq_false hel1
      have bel1 : ((el : Int) == 1) = false := beq_eq_false_iff_ne.2 (by omega)
      have R : Hid (_ = false) := E.out.trans (by rw [hs0, del1]; rfl)
      clear E hel1 del1
      go_enter Tryd.func81, Tryd.ntmps81
      go_wp2
      go_ret
      exact ⟨by rw [R.out]; rfl, hb0⟩
  · have R : Hid (_ = false) := E.out.trans (by rw [hs0]; rfl)
    clear E
    go_enter Tryd.func81, Tryd.ntmps81
    go_wp2
    go_ret
    exact ⟨by rw [R.out]; rfl, hb0⟩

theorem stmtInForm (x : SNode) (hk : 1 ≤ x.kind ∧ x.kind ≤ 6) (hs : x.s.size ≤ maxLen) (h1 : x.el ≤ maxLen) (h2 : x.bl ≤ maxLen) (h3 : x.ll ≤ maxLen) (w : World) :
    Calls Tryd.prog 81 #[.agg #[.int .i64 x.kind, .string x.s, .slice x.ea x.el x.ec, .slice x.ba x.bl x.bc, .slice x.la x.ll x.lc]] w fun e w' => e = .returned (.bool (stmtForm x)) ∧ Below w.heap.size w w' := by
  obtain ⟨kind, s, ea, el, ec, ex, ba, bl, bc, la, ll, lc⟩ := x
  dsimp only at hk hs h1 h2 h3
  unfold maxLen at h1 h2 h3
  rcases (show kind = 1 ∨ kind = 2 ∨ kind = 3 ∨ kind = 4 ∨ kind = 5 ∨ kind = 6 by omega) with rfl | rfl | rfl | rfl | rfl | rfl
  · exact stmt1 s ea el ec ex ba bl bc la ll lc hs (by omega) (by omega) (by omega) w
  · exact stmt2 s ea el ec ex ba bl bc la ll lc hs (by omega) (by omega) (by omega) w
  · exact stmt3 s ea el ec ex ba bl bc la ll lc hs (by omega) (by omega) (by omega) w
  · exact stmt4 s ea el ec ex ba bl bc la ll lc hs (by omega) (by omega) (by omega) w
  · exact stmt5 s ea el ec ex ba bl bc la ll lc hs (by omega) (by omega) (by omega) w
  · exact stmt6 s ea el ec ex ba bl bc la ll lc hs (by omega) (by omega) (by omega) w
end Go.Proofs.YtgjemlhnlpglbaaDoor.StmtForm
