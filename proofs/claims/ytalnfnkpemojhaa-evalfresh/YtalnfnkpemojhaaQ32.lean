/-
  THE DOCUMENT's exprFault, OF A KIND: what it gives where its Args give what they give; the call returns, and lays new memory alone.
  Conditions: each contract's own hypotheses.
  THE DOCUMENT's exprFault, OF A KIND: what it gives where its Args give what they give; the call returns, and lays new memory alone.
  Conditions: each contract's own hypotheses.
-/
import Derived.Test.YtalnfnkpemojhaaQ5
import Derived.Deep.RegionWith
namespace Go.Proofs.Ytalnfnkpemojhaa.RefExpr
open Go.RowKit Go.Proofs.Ytalnfnkpemojhaa.Ident Trees Forms

/-- the Args lie there, and give what they give -/
def Kids (w : World) (ao : Option Addr) (len : Nat) (dep : Int) (f : Nat → Int) : Prop :=
  ∀ k, k < len → ∃ (y : ENode) (bl off : Nat), ao = some ⟨bl, off, none⟩ ∧
    (∀ W, Below w.heap.size w W → W.cell? ⟨bl, off + k * 5, none⟩ = some (.int .i64 y.kind) ∧ W.cell? ⟨bl, off + k * 5 + 1, none⟩ = some (.int .i64 y.n) ∧ W.cell? ⟨bl, off + k * 5 + 2, none⟩ = some (.string y.of) ∧ W.cell? ⟨bl, off + k * 5 + 3, none⟩ = some (.string y.s) ∧ W.cell? ⟨bl, off + k * 5 + 4, none⟩ = some (.slice y.ao y.len y.cap)) ∧
    ∀ W, Below w.heap.size w W → Calls Try.prog 66 #[.agg #[.int .i64 y.kind, .int .i64 y.n, .string y.of, .string y.s, .slice y.ao y.len y.cap], .int .i64 (dep + 1)] W fun e w' => e = .returned (.int .i64 (f k)) ∧ Below W.heap.size W w'

end Go.Proofs.Ytalnfnkpemojhaa.RefExpr

namespace Go.Proofs.Ytalnfnkpemojhaa.RefExpr
open Go.RowKit Go.Proofs.Ytalnfnkpemojhaa.Ident Trees Forms

set_option maxHeartbeats 4000000 in
theorem ref1 (n : Int) (of s : ByteArray) (ao : Option Addr) (len cap : Nat) (_ : of.size ≤ maxLen) (_ : s.size ≤ maxLen) (hl : len ≤ 4) (dep : Int) (h1 : 1 ≤ dep) (h12 : dep ≤ 12) (f : Nat → Int) (w : World) (kids : Kids w ao len dep f) :
    Calls Try.prog 66 #[.agg #[.int .i64 1, .int .i64 n, .string of, .string s, .slice ao len cap], .int .i64 dep] w fun e w' => e = .returned (.int .i64 (if exprForm ⟨1, n, of, s, ao, len, cap⟩ = true then if exprRange ⟨1, n, of, s, ao, len, cap⟩ = true then first f len else 2 else 4)) ∧ Below w.heap.size w w' := by
  have hlI : (len : Int) ≤ 4 := by omega
  have KIDS : Hid _ := kids
  have E : Hid (exprForm ⟨1, n, of, s, ao, len, cap⟩ = (of.toList == [] && s.toList == [] && decide (len = 0))) := (show exprForm ⟨1, n, of, s, ao, len, cap⟩ = (of.toList == [] && s.toList == [] && decide (len = 0)) by simp [exprForm])
  have RE : exprRange ⟨1, n, of, s, ao, len, cap⟩ = decide (0 ≤ n ∧ n ≤ 65535) := by simp [exprRange]
  obtain ⟨x, ex⟩ : ∃ x : Int, x = if exprForm ⟨1, n, of, s, ao, len, cap⟩ = true then if exprRange ⟨1, n, of, s, ao, len, cap⟩ = true then first f len else 2 else 4 := ⟨_, rfl⟩
  have XE : Hid (x = if exprForm ⟨1, n, of, s, ao, len, cap⟩ = true then if exprRange ⟨1, n, of, s, ao, len, cap⟩ = true then first f len else 2 else 4) := ex
  rw [← ex]
  generalize exprForm ⟨1, n, of, s, ao, len, cap⟩ = fm at E XE
  generalize exprRange ⟨1, n, of, s, ao, len, cap⟩ = rg at RE XE
  obtain ⟨w0, ew0⟩ : ∃ w0, w0 = w.alloc (.cells #[.int .i64 1, .int .i64 n, .string of, .string s, .slice ao len cap] 85) := ⟨_, rfl⟩
  have hb00 : Below w.heap.size w w0 := by rw [ew0]; exact below1 w _
  have bx : ∀ W, Below w0.heap.size w0 W → W.cell? ⟨w.heap.size, 0, none⟩ = some (.int .i64 1) ∧ W.cell? ⟨w.heap.size, 1, none⟩ = some (.int .i64 n) ∧ W.cell? ⟨w.heap.size, 2, none⟩ = some (.string of) ∧ W.cell? ⟨w.heap.size, 3, none⟩ = some (.string s) ∧ W.cell? ⟨w.heap.size, 4, none⟩ = some (.slice ao len cap) := by
    rw [ew0]
    exact fun W hb => box5 hb
  have up : ∀ W, Below w0.heap.size w0 W → Below w.heap.size w W := fun W hb => hb00.trans (hb.mono hb00.size)
  have BX : Hid _ := bx
  have UP : Hid _ := up
  have EW : Hid (w.alloc (.cells #[.int .i64 1, .int .i64 n, .string of, .string s, .slice ao len cap] 85) = w0) := ew0.symm
  have hb0 : Below w0.heap.size w0 w0 := Below.refl _ _
  obtain ⟨q0, q1, q2, q3, q4⟩ := bx w0 hb0
  clear ew0 bx up hb00 ex kids hl
  rcases Bool.eq_false_or_eq_true (of.toList == []) with hof0 | hof0
  · rcases Bool.eq_false_or_eq_true (s.toList == []) with hs0 | hs0
    · by_cases hlen0 : len = 0
      · have dlen0 : decide (len = 0) = true := decide_eq_true hlen0
        have blen0 : ((len : Int) == 0) = true := beq_iff_eq.2 (by omega)
        have HL : Hid (len = 0) := hlen0
        clear hlen0
        have kn0 : ∀ W, Calls Try.prog 50 #[.int .i64 n] W fun e w' => e = .returned (.bool (decide (0 ≤ n ∧ n ≤ 65535))) ∧ w' = W := fun W => isWord n W
        obtain ⟨c, ec⟩ : ∃ c, c = decide (0 ≤ n ∧ n ≤ 65535) := ⟨_, rfl⟩
        rw [← ec] at kn0 RE
        have kn := kn0
        clear kn0 ec
        cases c
        · have R : Hid (x = 2) := by rw [XE.out, E.out, RE, hof0, hs0, dlen0]; exact (rfl : _ = _)
          clear E XE KIDS
          go_enter Try.func66, Try.ntmps66
          go_wp2_with (first
            | (go_at_call 50; refine (kn _).mono ?_; rintro e w' ⟨rfl, hw'⟩; rw [hw']; clear hw' w')
            | (go_at_call 43; rw [EW.out]; refine (isIn _ _ _ _).mono ?_; rintro e w' ⟨rfl, hw'⟩; rw [hw']; clear hw' w'))
          go_ret
          exact ⟨by rw [R.out]; rfl, UP.out _ hb0⟩
        · have R : Hid (x = first f len) := by rw [XE.out, E.out, RE, hof0, hs0, dlen0]; exact (rfl : _ = _)
          clear E XE
          go_enter Try.func66, Try.ntmps66
          go_wp2_with (first
            | (go_at_call 50; refine (kn _).mono ?_; rintro e w' ⟨rfl, hw'⟩; rw [hw']; clear hw' w')
            | (go_at_call 43; rw [EW.out]; refine (isIn _ _ _ _).mono ?_; rintro e w' ⟨rfl, hw'⟩; rw [hw']; clear hw' w'))
          go_loopw [7] (fun i wr => ∃ k : Nat, k ≤ len ∧ i = .int .i64 k ∧ first f k = 0 ∧ Below w0.heap.size w0 wr) (fun i _ => len - (intOf i).toNat)
          case atStart => exact ⟨0, Nat.zero_le _, rfl, rfl, hb0⟩
          case round =>
            obtain ⟨k, hk, rfl, hf, hbel⟩ := hrel
            have FK : Hid (first f k = 0) := hf
            clear hf q0 q1 q2 q3 q4
            obtain ⟨q0, q1, q2, q3, q4⟩ := BX.out _ hbel
            by_cases hkl : k < len
            · exact absurd hkl (by rw [HL.out]; omega)
            · obtain rfl : k = len := by omega
              clear KIDS
              go_wp2
              go_ret
              exact ⟨by rw [R.out, FK.out]; rfl, UP.out _ hbel⟩
      · have dlen0 : decide (len = 0) = false := decide_eq_false hlen0
        have blen0 : ((len : Int) == 0) = false := beq_eq_false_iff_ne.2 (by omega)
        have R : Hid (x = 4) := by rw [XE.out, E.out, hof0, hs0, dlen0]; exact (rfl : _ = _)
        clear hlen0 dlen0 E XE KIDS
        go_enter Try.func66, Try.ntmps66
        go_wp2_with (first
          | (go_at_call 43; rw [EW.out]; refine (isIn _ _ _ _).mono ?_; rintro e w' ⟨rfl, hw'⟩; rw [hw']; clear hw' w'))
        go_ret
        exact ⟨by rw [R.out]; rfl, UP.out _ hb0⟩
    · have R : Hid (x = 4) := by rw [XE.out, E.out, hof0, hs0]; exact (rfl : _ = _)
      clear E XE KIDS
      go_enter Try.func66, Try.ntmps66
      go_wp2_with (first
        | (go_at_call 43; rw [EW.out]; refine (isIn _ _ _ _).mono ?_; rintro e w' ⟨rfl, hw'⟩; rw [hw']; clear hw' w'))
      go_ret
      exact ⟨by rw [R.out]; rfl, UP.out _ hb0⟩
  · have R : Hid (x = 4) := by rw [XE.out, E.out, hof0]; exact (rfl : _ = _)
    clear E XE KIDS
    go_enter Try.func66, Try.ntmps66
    go_wp2_with (first
      | (go_at_call 43; rw [EW.out]; refine (isIn _ _ _ _).mono ?_; rintro e w' ⟨rfl, hw'⟩; rw [hw']; clear hw' w'))
    go_ret
    exact ⟨by rw [R.out]; rfl, UP.out _ hb0⟩

end Go.Proofs.Ytalnfnkpemojhaa.RefExpr
