/-
  WHAT tree.idents, checkFunc, checkHead, countOf AND tree.Check GIVE, for every unit: each call returns, and lays new memory alone.
  Conditions: what the unit names lies there.
-/
import Derived.Test.YtmbbkabecipkaaeCount
namespace Go.Proofs.Ytmbbkabecipkaae.UnitCheck
open Go.RowKit Go.Proofs.Ytmbbkabecipkaae.Ident Trees Forms

theorem box4 {w w' : World} {v0 v1 v2 v3 : Value} {t : TypeId} (hb : Below (w.alloc (.cells #[v0, v1, v2, v3] t)).heap.size (w.alloc (.cells #[v0, v1, v2, v3] t)) w') :
    w'.cell? ⟨w.heap.size, 0, none⟩ = some v0 ∧ w'.cell? ⟨w.heap.size, 1, none⟩ = some v1 ∧ w'.cell? ⟨w.heap.size, 2, none⟩ = some v2 ∧ w'.cell? ⟨w.heap.size, 3, none⟩ = some v3 := by
  have h : ∀ i : Nat, (⟨w.heap.size, i, none⟩ : Addr).block < (w.alloc (.cells #[v0, v1, v2, v3] t)).heap.size := fun i => by simp
  exact ⟨(hb.cell (h 0)).trans (by simp), (hb.cell (h 1)).trans (by simp), (hb.cell (h 2)).trans (by simp), (hb.cell (h 3)).trans (by simp)⟩
theorem box2 {w w' : World} {v0 v1 : Value} {t : TypeId} (hb : Below (w.alloc (.cells #[v0, v1] t)).heap.size (w.alloc (.cells #[v0, v1] t)) w') :
    w'.cell? ⟨w.heap.size, 0, none⟩ = some v0 ∧ w'.cell? ⟨w.heap.size, 1, none⟩ = some v1 := by
  have h : ∀ i : Nat, (⟨w.heap.size, i, none⟩ : Addr).block < (w.alloc (.cells #[v0, v1] t)).heap.size := fun i => by simp
  exact ⟨(hb.cell (h 0)).trans (by simp), (hb.cell (h 1)).trans (by simp)⟩

theorem first_vals {f : Nat → Int} {c : Int} (h : ∀ i, f i = 0 ∨ f i = c) : ∀ n, first f n = 0 ∨ first f n = c
  | 0 => .inl rfl
  | n + 1 => by
    rw [first]
    split
    · exact h n
    · exact first_vals h n
theorem namesFault_vals (z : Nat → ByteArray) (n : Nat) : namesFault z n = 0 ∨ namesFault z n = 4 := first_vals (fun i => by split <;> simp) n

theorem funcFault_zero {f : FuncD} (h : funcFault f = 0) : stmtsFault 12 f.bl f.body = 0 := by
  unfold funcFault at h
  split at h
  · split at h
    · split at h
      · exact h
      · contradiction
    · cases h
  · cases h

end Go.Proofs.Ytmbbkabecipkaae.UnitCheck
