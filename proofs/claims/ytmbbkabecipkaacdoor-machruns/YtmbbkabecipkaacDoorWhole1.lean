/-
  WHAT THE DOCUMENT'S ANSWER InstrFault GIVES, for every instruction: the call returns, and lays new memory alone.
  Conditions: none.
-/
import Derived.Test.YtmbbkabecipkaacDoorWhole0
namespace Go.Proofs.YtmbbkabecipkaacDoor.Fault
open Go.RowKit Tab Go.Proofs.YtmbbkabecipkaacDoor.Check

theorem ends {a : Int} (h : (a == 0) = true) : a = 0 := by simpa using h
theorem ends' {a : Int} (h : (a == 0) = false) : a ≠ 0 := by simpa using h

set_option maxHeartbeats 4000000 in
theorem ref_at (op a b c : Int) (h : 1 ≤ op) (h' : op ≤ 15) (r : Int) (hr : Hid (fault op a b c = r)) (w : World) :
    Calls Tryd.prog 52 #[.agg #[.int .i64 op, .int .i64 a, .int .i64 b, .int .i64 c]] w fun e w' => e = .returned (.int .i64 r) ∧ Below w.heap.size w w' := by
  rcases (show op = 1 ∨ op = 2 ∨ op = 3 ∨ op = 4 ∨ op = 5 ∨ op = 6 ∨ op = 7 ∨ op = 8 ∨ op = 9 ∨ op = 10 ∨ op = 11 ∨ op = 12 ∨ op = 13 ∨ op = 14 ∨ op = 15 by omega) with rfl | rfl | rfl | rfl | rfl | rfl | rfl | rfl | rfl | rfl | rfl | rfl | rfl | rfl | rfl
  all_goals
    go_enter Tryd.func52, Tryd.ntmps52
    go_wp2_with (go_at_call 27; refine (isIn _ _ _ _).mono ?_; rintro e w' ⟨rfl, rfl⟩)
    all_goals
      go_ret
      refine ⟨?_, below1 _ _⟩
      rw [← hr.out]
      simp only [fault, row, rows]
      simp
      first
      | omega
      | (have := ends (by assumption); omega)
      | (have := ends' (by assumption); omega)

theorem ref_kind (op a b c : Int) (h : ¬ (1 ≤ op ∧ op ≤ 15)) (w : World) :
    Calls Tryd.prog 52 #[.agg #[.int .i64 op, .int .i64 a, .int .i64 b, .int .i64 c]] w fun e w' => e = .returned (.int .i64 3) ∧ Below w.heap.size w w' := by
  have d : decide (1 ≤ op ∧ op ≤ 15) = false := decide_eq_false h
  clear h
  go_enter Tryd.func52, Tryd.ntmps52
  go_wp2_with (go_at_call 27; refine (isIn _ _ _ _).mono ?_; rintro e w' ⟨rfl, rfl⟩)
  all_goals
    go_ret
    exact ⟨rfl, below1 _ _⟩

theorem ref (op a b c : Int) (w : World) :
    Calls Tryd.prog 52 #[.agg #[.int .i64 op, .int .i64 a, .int .i64 b, .int .i64 c]] w fun e w' => e = .returned (.int .i64 (fault op a b c)) ∧ Below w.heap.size w w' := by
  by_cases h : 1 ≤ op ∧ op ≤ 15
  · exact ref_at op a b c h.1 h.2 _ (show fault op a b c = _ from rfl) w
  · have : fault op a b c = 3 := by rw [fault, if_neg h]
    rw [this]
    exact ref_kind op a b c h w
end Go.Proofs.YtmbbkabecipkaacDoor.Fault
