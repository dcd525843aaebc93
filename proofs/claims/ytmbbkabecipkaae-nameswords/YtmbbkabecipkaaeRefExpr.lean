/-
  THE DOCUMENT's exprFault, OF A KIND: what it gives where its Args give what they give; the call returns, and lays new memory alone.
  Conditions: each contract's own hypotheses.
-/
import Derived.Test.YtmbbkabecipkaaeForms
import Derived.Deep.RegionWith
namespace Go.Proofs.Ytmbbkabecipkaae.RefExpr
open Go.RowKit Go.Proofs.Ytmbbkabecipkaae.Ident Trees Forms

/-- the Args lie there, and give what they give -/
def Kids (w : World) (ao : Option Addr) (len : Nat) (dep : Int) (f : Nat → Int) : Prop :=
  ∀ k, k < len → ∃ (y : ENode) (bl off : Nat), ao = some ⟨bl, off, none⟩ ∧
    (∀ W, Below w.heap.size w W → W.cell? ⟨bl, off + k * 5, none⟩ = some (.int .i64 y.kind) ∧ W.cell? ⟨bl, off + k * 5 + 1, none⟩ = some (.int .i64 y.n) ∧ W.cell? ⟨bl, off + k * 5 + 2, none⟩ = some (.string y.of) ∧ W.cell? ⟨bl, off + k * 5 + 3, none⟩ = some (.string y.s) ∧ W.cell? ⟨bl, off + k * 5 + 4, none⟩ = some (.slice y.ao y.len y.cap)) ∧
    ∀ W, Below w.heap.size w W → Calls Try.prog 23 #[.agg #[.int .i64 y.kind, .int .i64 y.n, .string y.of, .string y.s, .slice y.ao y.len y.cap], .int .i64 (dep + 1)] W fun e w' => e = .returned (.int .i64 (f k)) ∧ Below W.heap.size W w'

end Go.Proofs.Ytmbbkabecipkaae.RefExpr
