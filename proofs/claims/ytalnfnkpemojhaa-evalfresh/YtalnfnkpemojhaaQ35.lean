/-
  THE DOCUMENT's exprFault, OF A KIND: what it gives where its Args give what they give; the call returns, and lays new memory alone.
  Conditions: each contract's own hypotheses.
  WHAT THE DOCUMENT's exprFault GIVES, for every expression, at every depth: the call returns, and lays new memory alone.
  Conditions: the expression's Args lie there.
-/
import Derived.Test.YtalnfnkpemojhaaQ32
import Derived.Deep.RegionWith
import Derived.Test.YtalnfnkpemojhaaQ33
import Derived.Test.YtalnfnkpemojhaaQ34
namespace Go.Proofs.Ytalnfnkpemojhaa.RefExpr
open Go.RowKit Go.Proofs.Ytalnfnkpemojhaa.Ident Trees Forms

set_option maxHeartbeats 4000000 in
theorem ref5 (n : Int) (of s : ByteArray) (ao : Option Addr) (len cap : Nat) (_ : of.size ≤ maxLen) (_ : s.size ≤ maxLen) (hl : len ≤ 4) (dep : Int) (h1 : 1 ≤ dep) (h12 : dep ≤ 12) (f : Nat → Int) (w : World) (kids : Kids w ao len dep f) :
    Calls Try.prog 66 #[.agg #[.int .i64 5, .int .i64 n, .string of, .string s, .slice ao len cap], .int .i64 dep] w fun e w' => e = .returned (.int .i64 (if exprForm ⟨5, n, of, s, ao, len, cap⟩ = true then if exprRange ⟨5, n, of, s, ao, len, cap⟩ = true then first f len else 2 else 4)) ∧ Below w.heap.size w w' := by
  have hlI : (len : Int) ≤ 4 := by omega
  have KIDS : Hid _ := kids
  have E : Hid (exprForm ⟨5, n, of, s, ao, len, cap⟩ = (of.toList == [] && s.toList == [] && decide (len = 2))) := (show exprForm ⟨5, n, of, s, ao, len, cap⟩ = (of.toList == [] && s.toList == [] && decide (len = 2)) by simp [exprForm])
  have RE : exprRange ⟨5, n, of, s, ao, len, cap⟩ = decide (1 ≤ n ∧ n ≤ 10) := by simp [exprRange]
  obtain ⟨x, ex⟩ : ∃ x : Int, x = if exprForm ⟨5, n, of, s, ao, len, cap⟩ = true then if exprRange ⟨5, n, of, s, ao, len, cap⟩ = true then first f len else 2 else 4 := ⟨_, rfl⟩
  have XE : Hid (x = if exprForm ⟨5, n, of, s, ao, len, cap⟩ = true then if exprRange ⟨5, n, of, s, ao, len, cap⟩ = true then first f len else 2 else 4) := ex
  rw [← ex]
  generalize exprForm ⟨5, n, of, s, ao, len, cap⟩ = fm at E XE
  generalize exprRange ⟨5, n, of, s, ao, len, cap⟩ = rg at RE XE
  obtain ⟨w0, ew0⟩ : ∃ w0, w0 = w.alloc (.cells #[.int .i64 5, .int .i64 n, .string of, .string s, .slice ao len cap] 85) := ⟨_, rfl⟩
  have hb00 : Below w.heap.size w w0 := by rw [ew0]; exact below1 w _
  have bx : ∀ W, Below w0.heap.size w0 W → W.cell? ⟨w.heap.size, 0, none⟩ = some (.int .i64 5) ∧ W.cell? ⟨w.heap.size, 1, none⟩ = some (.int .i64 n) ∧ W.cell? ⟨w.heap.size, 2, none⟩ = some (.string of) ∧ W.cell? ⟨w.heap.size, 3, none⟩ = some (.string s) ∧ W.cell? ⟨w.heap.size, 4, none⟩ = some (.slice ao len cap) := by
    rw [ew0]
    exact fun W hb => box5 hb
  have up : ∀ W, Below w0.heap.size w0 W → Below w.heap.size w W := fun W hb => hb00.trans (hb.mono hb00.size)
  have BX : Hid _ := bx
  have UP : Hid _ := up
  have EW : Hid (w.alloc (.cells #[.int .i64 5, .int .i64 n, .string of, .string s, .slice ao len cap] 85) = w0) := ew0.symm
  have hb0 : Below w0.heap.size w0 w0 := Below.refl _ _
  obtain ⟨q0, q1, q2, q3, q4⟩ := bx w0 hb0
  clear ew0 bx up hb00 ex kids hl
  rcases Bool.eq_false_or_eq_true (of.toList == []) with hof0 | hof0
  · rcases Bool.eq_false_or_eq_true (s.toList == []) with hs0 | hs0
    · by_cases hlen2 : len = 2
      · have dlen2 : decide (len = 2) = true := decide_eq_true hlen2
        have blen2 : ((len : Int) == 2) = true := beq_iff_eq.2 (by omega)
        have HL : Hid (len = 2) := hlen2
        clear hlen2
        have kn0 : ∀ W, Calls Try.prog 43 #[.int .i64 n, .int .i64 1, .int .i64 10] W fun e w' => e = .returned (.bool (decide (1 ≤ n ∧ n ≤ 10))) ∧ w' = W := fun W => isIn n 1 10 W
        obtain ⟨c, ec⟩ : ∃ c, c = decide (1 ≤ n ∧ n ≤ 10) := ⟨_, rfl⟩
        rw [← ec] at kn0 RE
        have kn := kn0
        clear kn0 ec
        cases c
        · have R : Hid (x = 2) := by rw [XE.out, E.out, RE, hof0, hs0, dlen2]; exact (rfl : _ = _)
          clear E XE KIDS
          go_enter Try.func66, Try.ntmps66
          go_wp2_with (first
            | (go_at_call_of 43 (Value.int .i64 n); refine (kn _).mono ?_; rintro e w' ⟨rfl, hw'⟩; rw [hw']; clear hw' w')
            | (go_at_call 43; rw [EW.out]; refine (isIn _ _ _ _).mono ?_; rintro e w' ⟨rfl, hw'⟩; rw [hw']; clear hw' w'))
          go_ret
          exact ⟨by rw [R.out]; rfl, UP.out _ hb0⟩
        · have R : Hid (x = first f len) := by rw [XE.out, E.out, RE, hof0, hs0, dlen2]; exact (rfl : _ = _)
          clear E XE
          go_enter Try.func66, Try.ntmps66
          go_wp2_with (first
            | (go_at_call_of 43 (Value.int .i64 n); refine (kn _).mono ?_; rintro e w' ⟨rfl, hw'⟩; rw [hw']; clear hw' w')
            | (go_at_call 43; rw [EW.out]; refine (isIn _ _ _ _).mono ?_; rintro e w' ⟨rfl, hw'⟩; rw [hw']; clear hw' w'))
          go_loopw [7] (fun i wr => ∃ k : Nat, k ≤ len ∧ i = .int .i64 k ∧ first f k = 0 ∧ Below w0.heap.size w0 wr) (fun i _ => len - (intOf i).toNat)
          case atStart => exact ⟨0, Nat.zero_le _, rfl, rfl, hb0⟩
          case round =>
            obtain ⟨k, hk, rfl, hf, hbel⟩ := hrel
            have FK : Hid (first f k = 0) := hf
            clear hf q0 q1 q2 q3 q4
            obtain ⟨q0, q1, q2, q3, q4⟩ := BX.out _ hbel
            by_cases hkl : k < len
            · obtain ⟨y, bl, off, ea, hc, hy⟩ := KIDS.out k hkl
              obtain ⟨t0, t1, t2, t3, t4⟩ := hc _ (UP.out _ hbel)
              have ky := hy _ (UP.out _ hbel)
              subst ea
              obtain ⟨r, er⟩ : ∃ r, r = f k := ⟨_, rfl⟩
              rw [← er] at ky
              have ER : Hid (r = f k) := er
              clear er hc hy KIDS
              obtain ⟨yk, yn, yof, ys, yao, ylen, ycap⟩ := y
              dsimp only at t0 t1 t2 t3 t4 ky
              by_cases hr : r = 0
              · subst hr
                go_wp2_with (go_at_call 66; refine ky.mono ?_; rintro e w3 ⟨rfl, hb3⟩; have hb4 := hbel.trans (hb3.mono hbel.size))
                go_roundw
                case rel => exact ⟨k + 1, by omega, by go_num, by rw [first_succ FK.out]; exact ER.out.symm, hb4⟩
                case measure => simp [intOf]; omega
              · have hr2 : (r == 0) = false := beq_eq_false_iff_ne.2 hr
                have e1 : Hid (first f len = r) := (first_stops hkl FK.out (by rw [← ER.out]; exact hr)).trans ER.out.symm
                clear hr
                go_wp2_with (go_at_call 66; refine ky.mono ?_; rintro e w3 ⟨rfl, hb3⟩; have hb4 := hbel.trans (hb3.mono hbel.size))
                go_ret
                exact ⟨by rw [R.out, e1.out]; rfl, UP.out _ hb4⟩
            · obtain rfl : k = len := by omega
              clear KIDS
              go_wp2
              go_ret
              exact ⟨by rw [R.out, FK.out]; rfl, UP.out _ hbel⟩
      · have dlen2 : decide (len = 2) = false := decide_eq_false hlen2
        have blen2 : ((len : Int) == 2) = false := beq_eq_false_iff_ne.2 (by omega)
        have R : Hid (x = 4) := by rw [XE.out, E.out, hof0, hs0, dlen2]; exact (rfl : _ = _)
        clear hlen2 dlen2 E XE KIDS
        go_enter Try.func66, Try.ntmps66
        go_wp2_with (first
          | (go_at_call 43; rw [EW.out]; refine (isIn _ _ _ _).mono ?_; rintro e w' ⟨rfl, hw'⟩; rw [hw']; clear hw' w'))
        go_ret
        exact ⟨by rw [R.out]; rfl, UP.out _ hb0⟩
    · have R : Hid (x = 4) := by rw [XE.out, E.out, hof0, hs0]; exact (rfl : _ = _)
      clear E XE KIDS
      go_enter Try.func66, Try.ntmps66
      go_wp2_with (first
        | (go_at_call 43; rw [EW.out]; refine (isIn _ _ _ _).mono ?_; rintro e w' ⟨rfl, hw'⟩; rw [hw']; clear hw' w'))
      go_ret
      exact ⟨by rw [R.out]; rfl, UP.out _ hb0⟩
  · have R : Hid (x = 4) := by rw [XE.out, E.out, hof0]; exact (rfl : _ = _)
    clear E XE KIDS
    go_enter Try.func66, Try.ntmps66
    go_wp2_with (first
      | (go_at_call 43; rw [EW.out]; refine (isIn _ _ _ _).mono ?_; rintro e w' ⟨rfl, hw'⟩; rw [hw']; clear hw' w'))
    go_ret
    exact ⟨by rw [R.out]; rfl, UP.out _ hb0⟩

end Go.Proofs.Ytalnfnkpemojhaa.RefExpr

namespace Go.Proofs.Ytalnfnkpemojhaa.RefExpr
open Go.RowKit Go.Proofs.Ytalnfnkpemojhaa.Ident Trees Forms

set_option maxHeartbeats 4000000 in
theorem any : ∀ (d : Nat) (dep : Int) (T : ETree) (w : World), dep + d = 13 → 1 ≤ dep → ((T []).of.size ≤ maxLen ∧ (T []).s.size ≤ maxLen ∧ (T []).len ≤ maxLen) → ELies w d T →
    Calls Try.prog 66 #[.agg #[.int .i64 (T []).kind, .int .i64 (T []).n, .string (T []).of, .string (T []).s, .slice (T []).ao (T []).len (T []).cap], .int .i64 dep] w fun e w' => e = .returned (.int .i64 (exprFault d T)) ∧ Below w.heap.size w w' := by
  intro d
  induction d with
  | zero =>
    intro dep T w hd _ hz _
    obtain rfl : dep = 13 := by omega
    have hl := hz.2.2
    unfold maxLen at hl
    have hlI : ((T []).len : Int) ≤ 9223372036854775807 := by omega
    have e0 : exprFault 0 T = 1 := rfl
    rw [e0]
    generalize T [] = x at *
    obtain ⟨kind, n, of, s, ao, len, cap⟩ := x
    dsimp only at *
    clear hd hz hl e0
    go_enter Try.func66, Try.ntmps66
    go_wp2
    go_ret
    exact ⟨rfl, below1 _ _⟩
  | succ d ih =>
    intro dep T w hd h1 hz hT
    have h12 : dep ≤ 12 := by omega
    have EF : exprFault (d + 1) T = if nodeFault (T []) = 0 then first (fun i => exprFault d (sub T i)) (T []).len else nodeFault (T []) := rfl
    have HT : ERow w (T []).ao (T []).len (sub T) d := hT
    have kids : Kids w (T []).ao (T []).len dep (fun i => exprFault d (sub T i)) := by
      intro k hk
      obtain ⟨⟨bl, off, ea, hc⟩, hz', hE⟩ := HT k hk
      refine ⟨sub T k [], bl, off, ea, fun W hb => cell5 hb hc, fun W hb => ?_⟩
      exact ih (dep + 1) (sub T k) W (by omega) (by omega) hz' (ELies_below hb hE)
    have NF : nodeFault (T []) = if 1 ≤ (T []).kind ∧ (T []).kind ≤ 5 then if (T []).len ≤ 4 then if exprForm (T []) = true then if exprRange (T []) = true then 0 else 2 else 4 else 1 else 3 := rfl
    rw [EF]
    clear EF hT HT ih hd
    generalize (fun i => exprFault d (sub T i)) = f at kids ⊢
    generalize T [] = x at hz kids NF ⊢
    clear T
    obtain ⟨kind, n, of, s, ao, len, cap⟩ := x
    dsimp only at hz kids NF ⊢
    by_cases hk : 1 ≤ kind ∧ kind ≤ 5
    · by_cases hl : len ≤ 4
      · rw [NF, if_pos hk, if_pos hl]
        have e : (if (if exprForm ⟨kind, n, of, s, ao, len, cap⟩ = true then if exprRange ⟨kind, n, of, s, ao, len, cap⟩ = true then (0 : Int) else 2 else 4) = 0 then first f len else (if exprForm ⟨kind, n, of, s, ao, len, cap⟩ = true then if exprRange ⟨kind, n, of, s, ao, len, cap⟩ = true then (0 : Int) else 2 else 4)) = if exprForm ⟨kind, n, of, s, ao, len, cap⟩ = true then if exprRange ⟨kind, n, of, s, ao, len, cap⟩ = true then first f len else 2 else 4 := by
          cases exprForm ⟨kind, n, of, s, ao, len, cap⟩ <;> cases exprRange ⟨kind, n, of, s, ao, len, cap⟩ <;> simp
        rw [e]
        clear NF e
        rcases (show kind = 1 ∨ kind = 2 ∨ kind = 3 ∨ kind = 4 ∨ kind = 5 by omega) with rfl | rfl | rfl | rfl | rfl
        · exact ref1 n of s ao len cap hz.1 hz.2.1 hl dep h1 h12 f w kids
        · exact ref2 n of s ao len cap hz.1 hz.2.1 hl dep h1 h12 f w kids
        · exact ref3 n of s ao len cap hz.1 hz.2.1 hl dep h1 h12 f w kids
        · exact ref4 n of s ao len cap hz.1 hz.2.1 hl dep h1 h12 f w kids
        · exact ref5 n of s ao len cap hz.1 hz.2.1 hl dep h1 h12 f w kids
      · rw [NF, if_pos hk, if_neg hl, if_neg (by decide)]
        have hlM := hz.2.2
        unfold maxLen at hlM
        have hl4 : (4 : Int) < len := by omega
        have hlI : (len : Int) ≤ 9223372036854775807 := by omega
        have hd1 : decide (1 ≤ kind ∧ kind ≤ 5) = true := decide_eq_true hk
        have k22 : ∀ W, Calls Try.prog 43 #[.int .i64 kind, .int .i64 1, .int .i64 5] W fun e w' => e = .returned (.bool true) ∧ w' = W := fun W => by rw [← hd1]; exact isIn kind 1 5 W
        clear NF kids hz hk hl hlM hd1
        go_enter Try.func66, Try.ntmps66
        go_wp2_with (go_at_call 43; refine (k22 _).mono ?_; rintro e w' ⟨rfl, rfl⟩)
        go_ret
        exact ⟨rfl, below1 _ _⟩
    · rw [NF, if_neg hk, if_neg (by decide)]
      have hlM := hz.2.2
      unfold maxLen at hlM
      have hlI : (len : Int) ≤ 9223372036854775807 := by omega
      have hd1 : decide (1 ≤ kind ∧ kind ≤ 5) = false := decide_eq_false hk
      have k22 : ∀ W, Calls Try.prog 43 #[.int .i64 kind, .int .i64 1, .int .i64 5] W fun e w' => e = .returned (.bool false) ∧ w' = W := fun W => by rw [← hd1]; exact isIn kind 1 5 W
      clear NF kids hz hk hlM hd1
      go_enter Try.func66, Try.ntmps66
      go_wp2_with (go_at_call 43; refine (k22 _).mono ?_; rintro e w' ⟨rfl, rfl⟩)
      go_ret
      exact ⟨rfl, below1 _ _⟩
end Go.Proofs.Ytalnfnkpemojhaa.RefExpr
