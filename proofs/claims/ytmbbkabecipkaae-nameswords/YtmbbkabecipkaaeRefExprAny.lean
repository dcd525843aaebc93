/-
  WHAT THE DOCUMENT's exprFault GIVES, for every expression, at every depth: the call returns, and lays new memory alone.
  Conditions: the expression's Args lie there.
-/
import Derived.Test.YtmbbkabecipkaaeRefExpr1
import Derived.Test.YtmbbkabecipkaaeRefExpr2
import Derived.Test.YtmbbkabecipkaaeRefExpr3
import Derived.Test.YtmbbkabecipkaaeRefExpr4
import Derived.Test.YtmbbkabecipkaaeRefExpr5
namespace Go.Proofs.Ytmbbkabecipkaae.RefExpr
open Go.RowKit Go.Proofs.Ytmbbkabecipkaae.Ident Trees Forms

set_option maxHeartbeats 4000000 in
theorem any : ∀ (d : Nat) (dep : Int) (T : ETree) (w : World), dep + d = 13 → 1 ≤ dep → ((T []).of.size ≤ maxLen ∧ (T []).s.size ≤ maxLen ∧ (T []).len ≤ maxLen) → ELies w d T →
    Calls Try.prog 23 #[.agg #[.int .i64 (T []).kind, .int .i64 (T []).n, .string (T []).of, .string (T []).s, .slice (T []).ao (T []).len (T []).cap], .int .i64 dep] w fun e w' => e = .returned (.int .i64 (exprFault d T)) ∧ Below w.heap.size w w' := by
  intro d
  induction d with
  | zero =>
    intro dep T w hd _ hz _
    obtain rfl : dep = 13 := by omega
    have hl := hz.2.2
    unfold maxLen at hl
    have hlI : ((T []).len : Int) ≤ 9223372036854775807 := by omega
    have e0 : exprFault 0 T = 1 := rfl
    rw [e0]
    generalize T [] = x at *
    obtain ⟨kind, n, of, s, ao, len, cap⟩ := x
    dsimp only at *
    clear hd hz hl e0
    go_enter Try.func23, Try.ntmps23
    go_wp2
    go_ret
    exact ⟨rfl, below1 _ _⟩
  | succ d ih =>
    intro dep T w hd h1 hz hT
    have h12 : dep ≤ 12 := by omega
    have EF : exprFault (d + 1) T = if nodeFault (T []) = 0 then first (fun i => exprFault d (sub T i)) (T []).len else nodeFault (T []) := rfl
    have HT : ERow w (T []).ao (T []).len (sub T) d := hT
    have kids : Kids w (T []).ao (T []).len dep (fun i => exprFault d (sub T i)) := by
      intro k hk
      obtain ⟨⟨bl, off, ea, hc⟩, hz', hE⟩ := HT k hk
      refine ⟨sub T k [], bl, off, ea, fun W hb => cell5 hb hc, fun W hb => ?_⟩
      exact ih (dep + 1) (sub T k) W (by omega) (by omega) hz' (ELies_below hb hE)
    have NF : nodeFault (T []) = if 1 ≤ (T []).kind ∧ (T []).kind ≤ 5 then if (T []).len ≤ 4 then if exprForm (T []) = true then if exprRange (T []) = true then 0 else 2 else 4 else 1 else 3 := rfl
    rw [EF]
    clear EF hT HT ih hd
    generalize (fun i => exprFault d (sub T i)) = f at kids ⊢
    generalize T [] = x at hz kids NF ⊢
    clear T
    obtain ⟨kind, n, of, s, ao, len, cap⟩ := x
    dsimp only at hz kids NF ⊢
    by_cases hk : 1 ≤ kind ∧ kind ≤ 5
    · by_cases hl : len ≤ 4
      · rw [NF, if_pos hk, if_pos hl]
        have e : (if (if exprForm ⟨kind, n, of, s, ao, len, cap⟩ = true then if exprRange ⟨kind, n, of, s, ao, len, cap⟩ = true then (0 : Int) else 2 else 4) = 0 then first f len else (if exprForm ⟨kind, n, of, s, ao, len, cap⟩ = true then if exprRange ⟨kind, n, of, s, ao, len, cap⟩ = true then (0 : Int) else 2 else 4)) = if exprForm ⟨kind, n, of, s, ao, len, cap⟩ = true then if exprRange ⟨kind, n, of, s, ao, len, cap⟩ = true then first f len else 2 else 4 := by
          cases exprForm ⟨kind, n, of, s, ao, len, cap⟩ <;> cases exprRange ⟨kind, n, of, s, ao, len, cap⟩ <;> simp
        rw [e]
        clear NF e
        rcases (show kind = 1 ∨ kind = 2 ∨ kind = 3 ∨ kind = 4 ∨ kind = 5 by omega) with rfl | rfl | rfl | rfl | rfl
        · exact ref1 n of s ao len cap hz.1 hz.2.1 hl dep h1 h12 f w kids
        · exact ref2 n of s ao len cap hz.1 hz.2.1 hl dep h1 h12 f w kids
        · exact ref3 n of s ao len cap hz.1 hz.2.1 hl dep h1 h12 f w kids
        · exact ref4 n of s ao len cap hz.1 hz.2.1 hl dep h1 h12 f w kids
        · exact ref5 n of s ao len cap hz.1 hz.2.1 hl dep h1 h12 f w kids
      · rw [NF, if_pos hk, if_neg hl, if_neg (by decide)]
        have hlM := hz.2.2
        unfold maxLen at hlM
        have hl4 : (4 : Int) < len := by omega
        have hlI : (len : Int) ≤ 9223372036854775807 := by omega
        have hd1 : decide (1 ≤ kind ∧ kind ≤ 5) = true := decide_eq_true hk
        have k22 : ∀ W, Calls Try.prog 17 #[.int .i64 kind, .int .i64 1, .int .i64 5] W fun e w' => e = .returned (.bool true) ∧ w' = W := fun W => by rw [← hd1]; exact isIn kind 1 5 W
        clear NF kids hz hk hl hlM hd1
        go_enter Try.func23, Try.ntmps23
        go_wp2_with (go_at_call 17; refine (k22 _).mono ?_; rintro e w' ⟨rfl, rfl⟩)
        go_ret
        exact ⟨rfl, below1 _ _⟩
    · rw [NF, if_neg hk, if_neg (by decide)]
      have hlM := hz.2.2
      unfold maxLen at hlM
      have hlI : (len : Int) ≤ 9223372036854775807 := by omega
      have hd1 : decide (1 ≤ kind ∧ kind ≤ 5) = false := decide_eq_false hk
      have k22 : ∀ W, Calls Try.prog 17 #[.int .i64 kind, .int .i64 1, .int .i64 5] W fun e w' => e = .returned (.bool false) ∧ w' = W := fun W => by rw [← hd1]; exact isIn kind 1 5 W
      clear NF kids hz hk hlM hd1
      go_enter Try.func23, Try.ntmps23
      go_wp2_with (go_at_call 17; refine (k22 _).mono ?_; rintro e w' ⟨rfl, rfl⟩)
      go_ret
      exact ⟨rfl, below1 _ _⟩
end Go.Proofs.Ytmbbkabecipkaae.RefExpr
