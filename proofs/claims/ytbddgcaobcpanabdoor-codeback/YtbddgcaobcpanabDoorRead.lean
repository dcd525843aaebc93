/-
  WHAT code.checkRead AND word.Is GIVE, for every instruction and every number: each call returns, and lays new memory alone.
  Conditions: the table 'code.bounds' lies there (for checkRead).
-/
import Derived.Test.YtbddgcaobcpanabDoorLists
namespace Go.Proofs.YtbddgcaobcpanabDoor.Read
open Go.RowKit Tab Go.Proofs.YtbddgcaobcpanabDoor.Check Lists

/-- P2.3: what four numbers are refused with -/
def faultRead (op a b c : Int) : Int :=
  if (0 ≤ op ∧ op ≤ 65535) ∧ (0 ≤ a ∧ a ≤ 65535) ∧ (0 ≤ b ∧ b ≤ 65535) ∧ (0 ≤ c ∧ c ≤ 65535) then fault op a b c else 2

theorem is (n : Int) (w : World) :
    Calls Tryd.prog 13 #[.int .i64 n] w fun e w' => e = .returned (.bool (decide (0 ≤ n ∧ n ≤ 65535))) ∧ w' = w := by
  by_cases c0 : 0 ≤ n <;> by_cases c1 : n ≤ 65535
  all_goals
    go_enter Tryd.func13, Tryd.ntmps13
    go_wp2
    go_ret
    exact ⟨by simp [c0, c1], rfl⟩

theorem read_ok (op a b c r : Int) (h0 : 0 ≤ op ∧ op ≤ 65535) (h1 : 0 ≤ a ∧ a ≤ 65535) (h2 : 0 ≤ b ∧ b ≤ 65535) (h3 : 0 ≤ c ∧ c ≤ 65535) (w : World) (hl : Lies w)
    (k6 : ∀ w, Lies w → Calls Tryd.prog 10 #[.agg #[.int .i64 op, .int .i64 a, .int .i64 b, .int .i64 c]] w fun e w' => e = .returned (.int .i64 r) ∧ Below w.heap.size w w') :
    Calls Tryd.prog 11 #[.agg #[.int .i64 op, .int .i64 a, .int .i64 b, .int .i64 c]] w fun e w' => e = .returned (.int .i64 r) ∧ Below w.heap.size w w' := by
  have hb := below1 w (.cells #[.int .i64 op, .int .i64 a, .int .i64 b, .int .i64 c] 38)
  have hl2 := Lies_below hl hb
  clear hl
  go_enter Tryd.func11, Tryd.ntmps11
  go_wp2_with (first
    | (go_at_call 13; refine (is _ _).mono ?_; rintro e w' ⟨rfl, rfl⟩)
    | (go_at_call 10; refine (k6 _ hl2).mono ?_; rintro e w' ⟨rfl, hb1⟩))
  go_ret
  exact ⟨rfl, hb.trans (Below.mono (by assumption) hb.size)⟩

theorem read_bad (op a b c : Int) (h : ¬ ((0 ≤ op ∧ op ≤ 65535) ∧ (0 ≤ a ∧ a ≤ 65535) ∧ (0 ≤ b ∧ b ≤ 65535) ∧ (0 ≤ c ∧ c ≤ 65535))) (w : World) :
    Calls Tryd.prog 11 #[.agg #[.int .i64 op, .int .i64 a, .int .i64 b, .int .i64 c]] w fun e w' => e = .returned (.int .i64 2) ∧ Below w.heap.size w w' := by
  by_cases h0 : 0 ≤ op ∧ op ≤ 65535
  · by_cases h1 : 0 ≤ a ∧ a ≤ 65535
    · by_cases h2 : 0 ≤ b ∧ b ≤ 65535
      · have d : decide (0 ≤ c ∧ c ≤ 65535) = false := decide_eq_false fun h3 => h ⟨h0, h1, h2, h3⟩
        clear h
        go_enter Tryd.func11, Tryd.ntmps11
        go_wp2_with (go_at_call 13; refine (is _ _).mono ?_; rintro e w' ⟨rfl, rfl⟩)
        all_goals
          go_ret
          exact ⟨rfl, below1 _ _⟩
      · have d : decide (0 ≤ b ∧ b ≤ 65535) = false := decide_eq_false h2
        clear h h2
        go_enter Tryd.func11, Tryd.ntmps11
        go_wp2_with (go_at_call 13; refine (is _ _).mono ?_; rintro e w' ⟨rfl, rfl⟩)
        all_goals
          go_ret
          exact ⟨rfl, below1 _ _⟩
    · have d : decide (0 ≤ a ∧ a ≤ 65535) = false := decide_eq_false h1
      clear h h1
      go_enter Tryd.func11, Tryd.ntmps11
      go_wp2_with (go_at_call 13; refine (is _ _).mono ?_; rintro e w' ⟨rfl, rfl⟩)
      all_goals
        go_ret
        exact ⟨rfl, below1 _ _⟩
  · have d : decide (0 ≤ op ∧ op ≤ 65535) = false := decide_eq_false h0
    clear h h0
    go_enter Tryd.func11, Tryd.ntmps11
    go_wp2_with (go_at_call 13; refine (is _ _).mono ?_; rintro e w' ⟨rfl, rfl⟩)
    all_goals
      go_ret
      exact ⟨rfl, below1 _ _⟩

theorem checkRead (op a b c : Int) (w : World) (hl : Lies w) :
    Calls Tryd.prog 11 #[.agg #[.int .i64 op, .int .i64 a, .int .i64 b, .int .i64 c]] w fun e w' => e = .returned (.int .i64 (faultRead op a b c)) ∧ Below w.heap.size w w' := by
  by_cases h : (0 ≤ op ∧ op ≤ 65535) ∧ (0 ≤ a ∧ a ≤ 65535) ∧ (0 ≤ b ∧ b ≤ 65535) ∧ (0 ≤ c ∧ c ≤ 65535)
  · have : faultRead op a b c = fault op a b c := if_pos h
    rw [this]
    exact read_ok op a b c _ h.1 h.2.1 h.2.2.1 h.2.2.2 w hl fun w h => check op a b c w h
  · have : faultRead op a b c = 2 := if_neg h
    rw [this]
    exact read_bad op a b c h w

/-- a list of numbers that was handed in lies there: its first len -/
def Ints (w : World) (ao : Option Addr) (len : Nat) (z : Nat → Int) : Prop :=
  ∀ k, k < len → ∃ bl off, ao = some ⟨bl, off, none⟩ ∧ ∀ j, j < len → w.cell? ⟨bl, off + j, none⟩ = some (.int .i64 (z j))

theorem Ints_below {w w' : World} {ao : Option Addr} {len : Nat} {z : Nat → Int} (h : Ints w ao len z) (hb : Below w.heap.size w w') : Ints w' ao len z := by
  intro k hk
  obtain ⟨bl, off, e, t⟩ := h k hk
  exact ⟨bl, off, e, fun j hj => (hb.cell (World.block_lt_of_cell? w _ (t j hj))).trans (t j hj)⟩

theorem info38 : (Tryd.prog.info? 38).map (fun i => (i.zero, i.size, i.bytes)) = some (some (.agg #[.int .i64 0, .int .i64 0, .int .i64 0, .int .i64 0]), 4, 32) := by kernel_rfl
end Go.Proofs.YtbddgcaobcpanabDoor.Read
