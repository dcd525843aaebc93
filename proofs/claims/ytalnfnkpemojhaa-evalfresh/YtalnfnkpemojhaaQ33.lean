/-
  THE DOCUMENT's exprFault, OF A KIND: what it gives where its Args give what they give; the call returns, and lays new memory alone.
  Conditions: each contract's own hypotheses.
  THE DOCUMENT's exprFault, OF A KIND: what it gives where its Args give what they give; the call returns, and lays new memory alone.
  Conditions: each contract's own hypotheses.
-/
import Derived.Test.YtalnfnkpemojhaaQ32
import Derived.Deep.RegionWith
namespace Go.Proofs.Ytalnfnkpemojhaa.RefExpr
open Go.RowKit Go.Proofs.Ytalnfnkpemojhaa.Ident Trees Forms

set_option maxHeartbeats 4000000 in
theorem ref2 (n : Int) (of s : ByteArray) (ao : Option Addr) (len cap : Nat) (_ : of.size ≤ maxLen) (hs : s.size ≤ maxLen) (hl : len ≤ 4) (dep : Int) (h1 : 1 ≤ dep) (h12 : dep ≤ 12) (f : Nat → Int) (w : World) (kids : Kids w ao len dep f) :
    Calls Try.prog 66 #[.agg #[.int .i64 2, .int .i64 n, .string of, .string s, .slice ao len cap], .int .i64 dep] w fun e w' => e = .returned (.int .i64 (if exprForm ⟨2, n, of, s, ao, len, cap⟩ = true then if exprRange ⟨2, n, of, s, ao, len, cap⟩ = true then first f len else 2 else 4)) ∧ Below w.heap.size w w' := by
  have hlI : (len : Int) ≤ 4 := by omega
  have KIDS : Hid _ := kids
  have E : Hid (exprForm ⟨2, n, of, s, ao, len, cap⟩ = (of.toList == [] && identB s && decide (len = 0) && decide (n = 0))) := (show exprForm ⟨2, n, of, s, ao, len, cap⟩ = (of.toList == [] && identB s && decide (len = 0) && decide (n = 0)) by unfold exprForm; rw [if_neg (by dsimp only; decide), if_pos rfl]; dsimp only; cases of.toList == [] <;> cases identB s <;> cases identB of <;> cases decide (n = 0) <;> cases decide (len = 0) <;> rfl)
  have RE : exprRange ⟨2, n, of, s, ao, len, cap⟩ = true := by simp [exprRange]
  obtain ⟨x, ex⟩ : ∃ x : Int, x = if exprForm ⟨2, n, of, s, ao, len, cap⟩ = true then if exprRange ⟨2, n, of, s, ao, len, cap⟩ = true then first f len else 2 else 4 := ⟨_, rfl⟩
  have XE : Hid (x = if exprForm ⟨2, n, of, s, ao, len, cap⟩ = true then if exprRange ⟨2, n, of, s, ao, len, cap⟩ = true then first f len else 2 else 4) := ex
  rw [← ex]
  generalize exprForm ⟨2, n, of, s, ao, len, cap⟩ = fm at E XE
  generalize exprRange ⟨2, n, of, s, ao, len, cap⟩ = rg at RE XE
  obtain ⟨w0, ew0⟩ : ∃ w0, w0 = w.alloc (.cells #[.int .i64 2, .int .i64 n, .string of, .string s, .slice ao len cap] 85) := ⟨_, rfl⟩
  have hb00 : Below w.heap.size w w0 := by rw [ew0]; exact below1 w _
  have bx : ∀ W, Below w0.heap.size w0 W → W.cell? ⟨w.heap.size, 0, none⟩ = some (.int .i64 2) ∧ W.cell? ⟨w.heap.size, 1, none⟩ = some (.int .i64 n) ∧ W.cell? ⟨w.heap.size, 2, none⟩ = some (.string of) ∧ W.cell? ⟨w.heap.size, 3, none⟩ = some (.string s) ∧ W.cell? ⟨w.heap.size, 4, none⟩ = some (.slice ao len cap) := by
    rw [ew0]
    exact fun W hb => box5 hb
  have up : ∀ W, Below w0.heap.size w0 W → Below w.heap.size w W := fun W hb => hb00.trans (hb.mono hb00.size)
  have BX : Hid _ := bx
  have UP : Hid _ := up
  have EW : Hid (w.alloc (.cells #[.int .i64 2, .int .i64 n, .string of, .string s, .slice ao len cap] 85) = w0) := ew0.symm
  have hb0 : Below w0.heap.size w0 w0 := Below.refl _ _
  obtain ⟨q0, q1, q2, q3, q4⟩ := bx w0 hb0
  clear ew0 bx up hb00 ex kids hl
  rcases Bool.eq_false_or_eq_true (of.toList == []) with hof0 | hof0
  · rcases Bool.eq_false_or_eq_true (identB s) with hids | hids
    · have ks : ∀ W, Calls Try.prog 42 #[.string s] W fun e w' => e = .returned (.bool true) ∧ Below W.heap.size W w' := fun W => by rw [← hids]; exact nameMay s hs W
      by_cases hlen0 : len = 0
      · have dlen0 : decide (len = 0) = true := decide_eq_true hlen0
        have blen0 : ((len : Int) == 0) = true := beq_iff_eq.2 (by omega)
        have HL : Hid (len = 0) := hlen0
        clear hlen0
        by_cases hn0 : n = 0
        · have dn0 : decide (n = 0) = true := decide_eq_true hn0
          have bn0 : (n == 0) = true := beq_iff_eq.2 hn0
          clear hn0
          have R : Hid (x = first f len) := by rw [XE.out, E.out, RE, hof0, hids, dlen0, dn0]; exact (rfl : _ = _)
          clear E XE
          go_enter Try.func66, Try.ntmps66
          go_wp2_with (first
            | (go_at_call_of 42 (Value.string s); refine (ks _).mono ?_; rintro e w1 ⟨rfl, hx0⟩; have hb1 := hb0.trans (hx0.mono hb0.size); clear hx0 q0 q1 q2 q3 q4; obtain ⟨q0, q1, q2, q3, q4⟩ := BX.out _ hb1)
            | (go_at_call 43; rw [EW.out]; refine (isIn _ _ _ _).mono ?_; rintro e w' ⟨rfl, hw'⟩; rw [hw']; clear hw' w'))
          go_loopw [7] (fun i wr => ∃ k : Nat, k ≤ len ∧ i = .int .i64 k ∧ first f k = 0 ∧ Below w0.heap.size w0 wr) (fun i _ => len - (intOf i).toNat)
          case atStart => exact ⟨0, Nat.zero_le _, rfl, rfl, hb1⟩
          case round =>
            obtain ⟨k, hk, rfl, hf, hbel⟩ := hrel
            have FK : Hid (first f k = 0) := hf
            clear hf q0 q1 q2 q3 q4
            obtain ⟨q0, q1, q2, q3, q4⟩ := BX.out _ hbel
            by_cases hkl : k < len
            · exact absurd hkl (by rw [HL.out]; omega)
            · obtain rfl : k = len := by omega
              clear KIDS
              go_wp2
              go_ret
              exact ⟨by rw [R.out, FK.out]; rfl, UP.out _ hbel⟩
        · have dn0 : decide (n = 0) = false := decide_eq_false hn0
          have bn0 : (n == 0) = false := beq_eq_false_iff_ne.2 hn0
          have R : Hid (x = 4) := by rw [XE.out, E.out, hof0, hids, dlen0, dn0]; exact (rfl : _ = _)
          clear E XE KIDS
          go_enter Try.func66, Try.ntmps66
          go_wp2_with (first
            | (go_at_call_of 42 (Value.string s); refine (ks _).mono ?_; rintro e w1 ⟨rfl, hx0⟩; have hb1 := hb0.trans (hx0.mono hb0.size); clear hx0 q0 q1 q2 q3 q4; obtain ⟨q0, q1, q2, q3, q4⟩ := BX.out _ hb1)
            | (go_at_call 43; rw [EW.out]; refine (isIn _ _ _ _).mono ?_; rintro e w' ⟨rfl, hw'⟩; rw [hw']; clear hw' w'))
          go_ret
          exact ⟨by rw [R.out]; rfl, UP.out _ hb1⟩
      · have dlen0 : decide (len = 0) = false := decide_eq_false hlen0
        have blen0 : ((len : Int) == 0) = false := beq_eq_false_iff_ne.2 (by omega)
        have R : Hid (x = 4) := by rw [XE.out, E.out, hof0, hids, dlen0]; exact (rfl : _ = _)
        clear hlen0 dlen0 E XE KIDS
        go_enter Try.func66, Try.ntmps66
        go_wp2_with (first
          | (go_at_call_of 42 (Value.string s); refine (ks _).mono ?_; rintro e w1 ⟨rfl, hx0⟩; have hb1 := hb0.trans (hx0.mono hb0.size); clear hx0 q0 q1 q2 q3 q4; obtain ⟨q0, q1, q2, q3, q4⟩ := BX.out _ hb1)
          | (go_at_call 43; rw [EW.out]; refine (isIn _ _ _ _).mono ?_; rintro e w' ⟨rfl, hw'⟩; rw [hw']; clear hw' w'))
        go_ret
        exact ⟨by rw [R.out]; rfl, UP.out _ hb1⟩
    · have ks : ∀ W, Calls Try.prog 42 #[.string s] W fun e w' => e = .returned (.bool false) ∧ Below W.heap.size W w' := fun W => by rw [← hids]; exact nameMay s hs W
      have R : Hid (x = 4) := by rw [XE.out, E.out, hof0, hids]; exact (rfl : _ = _)
      clear E XE KIDS
      go_enter Try.func66, Try.ntmps66
      go_wp2_with (first
        | (go_at_call_of 42 (Value.string s); refine (ks _).mono ?_; rintro e w1 ⟨rfl, hx0⟩; have hb1 := hb0.trans (hx0.mono hb0.size); clear hx0 q0 q1 q2 q3 q4; obtain ⟨q0, q1, q2, q3, q4⟩ := BX.out _ hb1)
        | (go_at_call 43; rw [EW.out]; refine (isIn _ _ _ _).mono ?_; rintro e w' ⟨rfl, hw'⟩; rw [hw']; clear hw' w'))
      go_ret
      exact ⟨by rw [R.out]; rfl, UP.out _ hb1⟩
  · have R : Hid (x = 4) := by rw [XE.out, E.out, hof0]; exact (rfl : _ = _)
    clear E XE KIDS
    go_enter Try.func66, Try.ntmps66
    go_wp2_with (first
      | (go_at_call 43; rw [EW.out]; refine (isIn _ _ _ _).mono ?_; rintro e w' ⟨rfl, hw'⟩; rw [hw']; clear hw' w'))
    go_ret
    exact ⟨by rw [R.out]; rfl, UP.out _ hb0⟩

end Go.Proofs.Ytalnfnkpemojhaa.RefExpr

namespace Go.Proofs.Ytalnfnkpemojhaa.RefExpr
open Go.RowKit Go.Proofs.Ytalnfnkpemojhaa.Ident Trees Forms

set_option maxHeartbeats 4000000 in
theorem ref3 (n : Int) (of s : ByteArray) (ao : Option Addr) (len cap : Nat) (_ : of.size ≤ maxLen) (hs : s.size ≤ maxLen) (hl : len ≤ 4) (dep : Int) (h1 : 1 ≤ dep) (h12 : dep ≤ 12) (f : Nat → Int) (w : World) (kids : Kids w ao len dep f) :
    Calls Try.prog 66 #[.agg #[.int .i64 3, .int .i64 n, .string of, .string s, .slice ao len cap], .int .i64 dep] w fun e w' => e = .returned (.int .i64 (if exprForm ⟨3, n, of, s, ao, len, cap⟩ = true then if exprRange ⟨3, n, of, s, ao, len, cap⟩ = true then first f len else 2 else 4)) ∧ Below w.heap.size w w' := by
  have hlI : (len : Int) ≤ 4 := by omega
  have KIDS : Hid _ := kids
  have E : Hid (exprForm ⟨3, n, of, s, ao, len, cap⟩ = (of.toList == [] && identB s && decide (len = 1) && decide (n = 0))) := (show exprForm ⟨3, n, of, s, ao, len, cap⟩ = (of.toList == [] && identB s && decide (len = 1) && decide (n = 0)) by unfold exprForm; rw [if_neg (by dsimp only; decide), if_neg (by dsimp only; decide), if_pos rfl]; dsimp only; cases of.toList == [] <;> cases identB s <;> cases identB of <;> cases decide (n = 0) <;> cases decide (len = 1) <;> rfl)
  have RE : exprRange ⟨3, n, of, s, ao, len, cap⟩ = true := by simp [exprRange]
  obtain ⟨x, ex⟩ : ∃ x : Int, x = if exprForm ⟨3, n, of, s, ao, len, cap⟩ = true then if exprRange ⟨3, n, of, s, ao, len, cap⟩ = true then first f len else 2 else 4 := ⟨_, rfl⟩
  have XE : Hid (x = if exprForm ⟨3, n, of, s, ao, len, cap⟩ = true then if exprRange ⟨3, n, of, s, ao, len, cap⟩ = true then first f len else 2 else 4) := ex
  rw [← ex]
  generalize exprForm ⟨3, n, of, s, ao, len, cap⟩ = fm at E XE
  generalize exprRange ⟨3, n, of, s, ao, len, cap⟩ = rg at RE XE
  obtain ⟨w0, ew0⟩ : ∃ w0, w0 = w.alloc (.cells #[.int .i64 3, .int .i64 n, .string of, .string s, .slice ao len cap] 85) := ⟨_, rfl⟩
  have hb00 : Below w.heap.size w w0 := by rw [ew0]; exact below1 w _
  have bx : ∀ W, Below w0.heap.size w0 W → W.cell? ⟨w.heap.size, 0, none⟩ = some (.int .i64 3) ∧ W.cell? ⟨w.heap.size, 1, none⟩ = some (.int .i64 n) ∧ W.cell? ⟨w.heap.size, 2, none⟩ = some (.string of) ∧ W.cell? ⟨w.heap.size, 3, none⟩ = some (.string s) ∧ W.cell? ⟨w.heap.size, 4, none⟩ = some (.slice ao len cap) := by
    rw [ew0]
    exact fun W hb => box5 hb
  have up : ∀ W, Below w0.heap.size w0 W → Below w.heap.size w W := fun W hb => hb00.trans (hb.mono hb00.size)
  have BX : Hid _ := bx
  have UP : Hid _ := up
  have EW : Hid (w.alloc (.cells #[.int .i64 3, .int .i64 n, .string of, .string s, .slice ao len cap] 85) = w0) := ew0.symm
  have hb0 : Below w0.heap.size w0 w0 := Below.refl _ _
  obtain ⟨q0, q1, q2, q3, q4⟩ := bx w0 hb0
  clear ew0 bx up hb00 ex kids hl
  rcases Bool.eq_false_or_eq_true (of.toList == []) with hof0 | hof0
  · rcases Bool.eq_false_or_eq_true (identB s) with hids | hids
    · have ks : ∀ W, Calls Try.prog 42 #[.string s] W fun e w' => e = .returned (.bool true) ∧ Below W.heap.size W w' := fun W => by rw [← hids]; exact nameMay s hs W
      by_cases hlen1 : len = 1
      · have dlen1 : decide (len = 1) = true := decide_eq_true hlen1
        have blen1 : ((len : Int) == 1) = true := beq_iff_eq.2 (by omega)
        have HL : Hid (len = 1) := hlen1
        clear hlen1
        by_cases hn0 : n = 0
        · have dn0 : decide (n = 0) = true := decide_eq_true hn0
          have bn0 : (n == 0) = true := beq_iff_eq.2 hn0
          clear hn0
          have R : Hid (x = first f len) := by rw [XE.out, E.out, RE, hof0, hids, dlen1, dn0]; exact (rfl : _ = _)
          clear E XE
          go_enter Try.func66, Try.ntmps66
          go_wp2_with (first
            | (go_at_call_of 42 (Value.string s); refine (ks _).mono ?_; rintro e w1 ⟨rfl, hx0⟩; have hb1 := hb0.trans (hx0.mono hb0.size); clear hx0 q0 q1 q2 q3 q4; obtain ⟨q0, q1, q2, q3, q4⟩ := BX.out _ hb1)
            | (go_at_call 43; rw [EW.out]; refine (isIn _ _ _ _).mono ?_; rintro e w' ⟨rfl, hw'⟩; rw [hw']; clear hw' w'))
          go_loopw [7] (fun i wr => ∃ k : Nat, k ≤ len ∧ i = .int .i64 k ∧ first f k = 0 ∧ Below w0.heap.size w0 wr) (fun i _ => len - (intOf i).toNat)
          case atStart => exact ⟨0, Nat.zero_le _, rfl, rfl, hb1⟩
          case round =>
            obtain ⟨k, hk, rfl, hf, hbel⟩ := hrel
            have FK : Hid (first f k = 0) := hf
            clear hf q0 q1 q2 q3 q4
            obtain ⟨q0, q1, q2, q3, q4⟩ := BX.out _ hbel
            by_cases hkl : k < len
            · obtain ⟨y, bl, off, ea, hc, hy⟩ := KIDS.out k hkl
              obtain ⟨t0, t1, t2, t3, t4⟩ := hc _ (UP.out _ hbel)
              have ky := hy _ (UP.out _ hbel)
              subst ea
              obtain ⟨r, er⟩ : ∃ r, r = f k := ⟨_, rfl⟩
              rw [← er] at ky
              have ER : Hid (r = f k) := er
              clear er hc hy KIDS
              obtain ⟨yk, yn, yof, ys, yao, ylen, ycap⟩ := y
              dsimp only at t0 t1 t2 t3 t4 ky
              by_cases hr : r = 0
              · subst hr
                go_wp2_with (go_at_call 66; refine ky.mono ?_; rintro e w3 ⟨rfl, hb3⟩; have hb4 := hbel.trans (hb3.mono hbel.size))
                go_roundw
                case rel => exact ⟨k + 1, by omega, by go_num, by rw [first_succ FK.out]; exact ER.out.symm, hb4⟩
                case measure => simp [intOf]; omega
              · have hr2 : (r == 0) = false := beq_eq_false_iff_ne.2 hr
                have e1 : Hid (first f len = r) := (first_stops hkl FK.out (by rw [← ER.out]; exact hr)).trans ER.out.symm
                clear hr
                go_wp2_with (go_at_call 66; refine ky.mono ?_; rintro e w3 ⟨rfl, hb3⟩; have hb4 := hbel.trans (hb3.mono hbel.size))
                go_ret
                exact ⟨by rw [R.out, e1.out]; rfl, UP.out _ hb4⟩
            · obtain rfl : k = len := by omega
              clear KIDS
              go_wp2
              go_ret
              exact ⟨by rw [R.out, FK.out]; rfl, UP.out _ hbel⟩
        · have dn0 : decide (n = 0) = false := decide_eq_false hn0
          have bn0 : (n == 0) = false := beq_eq_false_iff_ne.2 hn0
          have R : Hid (x = 4) := by rw [XE.out, E.out, hof0, hids, dlen1, dn0]; exact (rfl : _ = _)
          clear E XE KIDS
          go_enter Try.func66, Try.ntmps66
          go_wp2_with (first
            | (go_at_call_of 42 (Value.string s); refine (ks _).mono ?_; rintro e w1 ⟨rfl, hx0⟩; have hb1 := hb0.trans (hx0.mono hb0.size); clear hx0 q0 q1 q2 q3 q4; obtain ⟨q0, q1, q2, q3, q4⟩ := BX.out _ hb1)
            | (go_at_call 43; rw [EW.out]; refine (isIn _ _ _ _).mono ?_; rintro e w' ⟨rfl, hw'⟩; rw [hw']; clear hw' w'))
          go_ret
          exact ⟨by rw [R.out]; rfl, UP.out _ hb1⟩
      · have dlen1 : decide (len = 1) = false := decide_eq_false hlen1
        have blen1 : ((len : Int) == 1) = false := beq_eq_false_iff_ne.2 (by omega)
        have R : Hid (x = 4) := by rw [XE.out, E.out, hof0, hids, dlen1]; exact (rfl : _ = _)
        clear hlen1 dlen1 E XE KIDS
        go_enter Try.func66, Try.ntmps66
        go_wp2_with (first
          | (go_at_call_of 42 (Value.string s); refine (ks _).mono ?_; rintro e w1 ⟨rfl, hx0⟩; have hb1 := hb0.trans (hx0.mono hb0.size); clear hx0 q0 q1 q2 q3 q4; obtain ⟨q0, q1, q2, q3, q4⟩ := BX.out _ hb1)
          | (go_at_call 43; rw [EW.out]; refine (isIn _ _ _ _).mono ?_; rintro e w' ⟨rfl, hw'⟩; rw [hw']; clear hw' w'))
        go_ret
        exact ⟨by rw [R.out]; rfl, UP.out _ hb1⟩
    · have ks : ∀ W, Calls Try.prog 42 #[.string s] W fun e w' => e = .returned (.bool false) ∧ Below W.heap.size W w' := fun W => by rw [← hids]; exact nameMay s hs W
      have R : Hid (x = 4) := by rw [XE.out, E.out, hof0, hids]; exact (rfl : _ = _)
      clear E XE KIDS
      go_enter Try.func66, Try.ntmps66
      go_wp2_with (first
        | (go_at_call_of 42 (Value.string s); refine (ks _).mono ?_; rintro e w1 ⟨rfl, hx0⟩; have hb1 := hb0.trans (hx0.mono hb0.size); clear hx0 q0 q1 q2 q3 q4; obtain ⟨q0, q1, q2, q3, q4⟩ := BX.out _ hb1)
        | (go_at_call 43; rw [EW.out]; refine (isIn _ _ _ _).mono ?_; rintro e w' ⟨rfl, hw'⟩; rw [hw']; clear hw' w'))
      go_ret
      exact ⟨by rw [R.out]; rfl, UP.out _ hb1⟩
  · have R : Hid (x = 4) := by rw [XE.out, E.out, hof0]; exact (rfl : _ = _)
    clear E XE KIDS
    go_enter Try.func66, Try.ntmps66
    go_wp2_with (first
      | (go_at_call 43; rw [EW.out]; refine (isIn _ _ _ _).mono ?_; rintro e w' ⟨rfl, hw'⟩; rw [hw']; clear hw' w'))
    go_ret
    exact ⟨by rw [R.out]; rfl, UP.out _ hb0⟩

end Go.Proofs.Ytalnfnkpemojhaa.RefExpr
