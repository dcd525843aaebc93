/-
  WHAT sameInts GIVES: two lists of the call's own, of the same numbers, are the same; the call turns nothing but the count of draws.
  Conditions: each contract's own hypotheses.
-/
import Derived.Test.YthjfnpbdmknokabDoorLists
import Derived.Deep.QuietTactic
import Derived.BigQuiet
namespace Go.Proofs.YthjfnpbdmknokabDoor.Same
open Go.RowKit Tab Go.Proofs.YthjfnpbdmknokabDoor.Check Lists

theorem sameInts (B n : Nat) (hn : n ≤ 1000000) (v v' : Value) (z : Nat → Int) (xs : List Value) (hz : ∀ i, i < n → xs[i]? = some (.int .i64 (z i))) (w : World) (h : w.ownsRow B 3 1 v n xs) (h' : w.ownsRow B 3 1 v' n xs) :
    Calls Tryd.prog 22 #[v, v'] w fun e w' => e = .returned (.bool true) ∧ Below w.heap.size w w' := by
  rcases Nat.eq_zero_or_pos n with rfl | hpos
  · obtain ⟨ao, cap, rfl⟩ : ∃ ao cap, v = .slice ao 0 cap := by rcases h.2 with ⟨rfl, _⟩ | ⟨g, cap, cur, rfl, _⟩ <;> exact ⟨_, _, rfl⟩
    obtain ⟨ao', cap', rfl⟩ : ∃ ao cap, v' = .slice ao 0 cap := by rcases h'.2 with ⟨rfl, _⟩ | ⟨g, cap, cur, rfl, _⟩ <;> exact ⟨_, _, rfl⟩
    clear h h' hz
    go_enter Tryd.func22, Tryd.ntmps22
    go_wp2
    refine wp_loop_rounds 1 ?_
    rw [rounds_succ]
    go_wp2
    go_ret
    exact ⟨rfl, Below.refl _ _⟩
  · obtain ⟨g, cap, rfl⟩ : ∃ g cap, v = .slice (some ⟨g, 0, none⟩) n cap := by
      rcases h.2 with ⟨_, h0⟩ | ⟨g, cap, cur, rfl, _⟩
      · omega
      · exact ⟨_, _, rfl⟩
    obtain ⟨g', cap', rfl⟩ : ∃ g cap, v' = .slice (some ⟨g, 0, none⟩) n cap := by
      rcases h'.2 with ⟨_, h0⟩ | ⟨g, cap, cur, rfl, _⟩
      · omega
      · exact ⟨_, _, rfl⟩
    have c : ∀ i, i < n → w.cell? ⟨g, i, none⟩ = some (.int .i64 (z i)) := fun i hi => (h.cellAt i (by omega)).trans (hz i hi)
    have c' : ∀ i, i < n → w.cell? ⟨g', i, none⟩ = some (.int .i64 (z i)) := fun i hi => (h'.cellAt i (by omega)).trans (hz i hi)
    clear h h' hz
    have hn2 : (n : Int) ≤ 1000000 := by omega
    go_enter Tryd.func22, Tryd.ntmps22
    go_wp2
    go_loopw [5] (fun i wr => ∃ k : Nat, k ≤ n ∧ i = .int .i64 k ∧ Below w.heap.size w wr) (fun i _ => n - (intOf i).toNat)
    case atStart => exact ⟨0, Nat.zero_le _, rfl, Below.refl _ _⟩
    case round =>
      obtain ⟨k, hk, rfl, hbel⟩ := hrel
      by_cases hkn : k < n
      · have hkI : (k : Int) < n := by omega
        have q := c k hkn
        have q' := c' k hkn
        have s := (hbel.cell (p := ⟨g, k, none⟩) (World.block_lt_of_cell? w _ q)).trans q
        have s' := (hbel.cell (p := ⟨g', k, none⟩) (World.block_lt_of_cell? w _ q')).trans q'
        clear q q' c c'
        go_wp2
        go_quiet (fail)
        go_wp2
        go_roundw
        case rel => exact ⟨k + 1, by omega, by go_num, ⟨hbel.os, hbel.tape, hbel.output, hbel.size, hbel.block⟩⟩
        case measure => simp [intOf]; omega
      · obtain rfl : k = n := by omega
        clear c c'
        go_wp2
        go_ret
        exact ⟨rfl, hbel⟩
end Go.Proofs.YthjfnpbdmknokabDoor.Same
