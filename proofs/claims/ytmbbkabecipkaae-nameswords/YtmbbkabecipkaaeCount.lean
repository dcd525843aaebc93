/-
  WHAT tree.countStmts AND tree.countOf GIVE, of statements that may be: how many there are, as an int holds it; each call returns, and lays new memory alone.
  Conditions: what the statements name lies there, and nothing of them is refused.
-/
import Derived.Test.YtmbbkabecipkaaeForms
import Derived.Deep.RegionWith
namespace Go.Proofs.Ytmbbkabecipkaae.Count
open Go.RowKit Go.Proofs.Ytmbbkabecipkaae.Ident Trees Forms

theorem stmtFault_zero {d : Nat} {T : STree} (h : stmtFault d T = 0) : headFault (T []) = 0 ∧ stmtsFault d (T []).bl (inBody T) = 0 ∧ stmtsFault d (T []).ll (inElse T) = 0 := by
  unfold stmtFault at h
  split at h
  · split at h
    · exact ⟨by assumption, by assumption, h⟩
    · contradiction
  · contradiction

theorem wrapEq (x : Int) : IntKind.i64.wrap x = wrap64 x := by rw [IntKind.wrap_i64]; unfold wrap64; omega
theorem wrap_add (a b c : Int) : wrap64 (wrap64 a + wrap64 (wrap64 b + wrap64 c)) = wrap64 (a + (b + c)) := by
  unfold wrap64; omega
theorem wrap_add2 (a b : Int) : wrap64 (wrap64 a + wrap64 b) = wrap64 (a + b) := by
  unfold wrap64; omega
theorem wrap_len {n : Nat} (h : (n : Int) ≤ 9223372036854775807) : wrap64 (n : Int) = n := by
  unfold wrap64; omega

end Go.Proofs.Ytmbbkabecipkaae.Count
