/-
  WHAT word.Is AND THE DOCUMENT'S IsWord GIVE, for every number: each call returns, and changes nothing.
  Conditions: none.
-/
import Derived.Test.YtmmcpjmgindpkacDoorLists
namespace Go.Proofs.YtmmcpjmgindpkacDoor.Read
open Go.RowKit Tab Go.Proofs.YtmmcpjmgindpkacDoor.Check Lists

theorem is (n : Int) (w : World) :
    Calls Tryd.prog 21 #[.int .i64 n] w fun e w' => e = .returned (.bool (decide (0 ≤ n ∧ n ≤ 65535))) ∧ w' = w := by
  by_cases c0 : 0 ≤ n <;> by_cases c1 : n ≤ 65535
  all_goals
    go_enter Tryd.func21, Tryd.ntmps21
    go_wp2
    go_ret
    exact ⟨by simp [c0, c1], rfl⟩

theorem isWord (n : Int) (w : World) :
    Calls Tryd.prog 28 #[.int .i64 n] w fun e w' => e = .returned (.bool (decide (0 ≤ n ∧ n ≤ 65535))) ∧ w' = w := by
  go_enter Tryd.func28, Tryd.ntmps28
  go_wp2_with (go_at_call 27; refine (isIn _ _ _ _).mono ?_; rintro e w' ⟨rfl, rfl⟩)
  go_ret
  exact ⟨by simp, rfl⟩

/-- a list of numbers that was handed in lies there: its first len -/
def Ints (w : World) (ao : Option Addr) (len : Nat) (z : Nat → Int) : Prop :=
  ∀ k, k < len → ∃ bl off, ao = some ⟨bl, off, none⟩ ∧ ∀ j, j < len → w.cell? ⟨bl, off + j, none⟩ = some (.int .i64 (z j))

theorem Ints_below {w w' : World} {ao : Option Addr} {len : Nat} {z : Nat → Int} (h : Ints w ao len z) (hb : Below w.heap.size w w') : Ints w' ao len z := by
  intro k hk
  obtain ⟨bl, off, e, t⟩ := h k hk
  exact ⟨bl, off, e, fun j hj => (hb.cell (World.block_lt_of_cell? w _ (t j hj))).trans (t j hj)⟩

end Go.Proofs.YtmmcpjmgindpkacDoor.Read
