/-
  WHAT sameCode GIVES: two lists of the call's own, of the same instructions, are the same; the call turns nothing but the count of draws.
  Conditions: each contract's own hypotheses.
-/
import Derived.Test.YtbddgcaobcpanaaDoorLists
import Derived.Deep.QuietTactic
import Derived.BigQuiet
namespace Go.Proofs.YtbddgcaobcpanaaDoor.SameCode
open Go.RowKit Tab Go.Proofs.YtbddgcaobcpanaaDoor.Check Lists

theorem words_length (o a b c : Nat → Int) (n : Nat) : (words o a b c n).length = 4 * n := by
  induction n with
  | zero => rfl
  | succ n ih => simp [words, ih]; omega

theorem words_four (o a b c : Nat → Int) (n : Nat) : ∀ k, k < n → (words o a b c n)[k * 4]? = some (.int .i64 (o k)) ∧ (words o a b c n)[k * 4 + 1]? = some (.int .i64 (a k)) ∧ (words o a b c n)[k * 4 + 2]? = some (.int .i64 (b k)) ∧ (words o a b c n)[k * 4 + 3]? = some (.int .i64 (c k)) := by
  induction n with
  | zero => intro k hk; omega
  | succ n ih =>
    intro k hk
    have hl := words_length o a b c n
    by_cases h : k < n
    · rw [words, List.getElem?_append_left (by omega), List.getElem?_append_left (by omega), List.getElem?_append_left (by omega), List.getElem?_append_left (by omega)]
      exact ih k h
    · obtain rfl : k = n := by omega
      rw [words, List.getElem?_append_right (by omega), List.getElem?_append_right (by omega), List.getElem?_append_right (by omega), List.getElem?_append_right (by omega), hl]
      simp [show k * 4 - 4 * k = 0 by omega, show k * 4 + 1 - 4 * k = 1 by omega, show k * 4 + 2 - 4 * k = 2 by omega, show k * 4 + 3 - 4 * k = 3 by omega]

theorem sameCode (B n : Nat) (hn : n ≤ 1000000) (v v' : Value) (o a b c : Nat → Int) (w : World) (h : w.ownsRow B 23 4 v n (words o a b c n)) (h' : w.ownsRow B 23 4 v' n (words o a b c n)) :
    Calls Tryd.prog 13 #[v, v'] w fun e w' => e = .returned (.bool true) ∧ Below w.heap.size w w' := by
  rcases Nat.eq_zero_or_pos n with rfl | hpos
  · obtain ⟨ao, cap, rfl⟩ : ∃ ao cap, v = .slice ao 0 cap := by rcases h.2 with ⟨rfl, _⟩ | ⟨g, cap, cur, rfl, _⟩ <;> exact ⟨_, _, rfl⟩
    obtain ⟨ao', cap', rfl⟩ : ∃ ao cap, v' = .slice ao 0 cap := by rcases h'.2 with ⟨rfl, _⟩ | ⟨g, cap, cur, rfl, _⟩ <;> exact ⟨_, _, rfl⟩
    clear h h'
    go_enter Tryd.func13, Tryd.ntmps13
    go_wp2
    refine wp_loop_rounds 1 ?_
    rw [rounds_succ]
    go_wp2
    go_ret
    exact ⟨rfl, Below.refl _ _⟩
  · obtain ⟨g, cap, rfl⟩ : ∃ g cap, v = .slice (some ⟨g, 0, none⟩) n cap := by
      rcases h.2 with ⟨_, h0⟩ | ⟨g, cap, cur, rfl, _⟩
      · omega
      · exact ⟨_, _, rfl⟩
    obtain ⟨g', cap', rfl⟩ : ∃ g cap, v' = .slice (some ⟨g, 0, none⟩) n cap := by
      rcases h'.2 with ⟨_, h0⟩ | ⟨g, cap, cur, rfl, _⟩
      · omega
      · exact ⟨_, _, rfl⟩
    have wf := words_four o a b c n
    have q : ∀ i, i < n → w.cell? ⟨g, i * 4, none⟩ = some (.int .i64 (o i)) ∧ w.cell? ⟨g, i * 4 + 1, none⟩ = some (.int .i64 (a i)) ∧ w.cell? ⟨g, i * 4 + 2, none⟩ = some (.int .i64 (b i)) ∧ w.cell? ⟨g, i * 4 + 3, none⟩ = some (.int .i64 (c i)) := fun i hi =>
      ⟨(h.cellAt _ (by omega)).trans (wf i hi).1, (h.cellAt _ (by omega)).trans (wf i hi).2.1, (h.cellAt _ (by omega)).trans (wf i hi).2.2.1, (h.cellAt _ (by omega)).trans (wf i hi).2.2.2⟩
    have q' : ∀ i, i < n → w.cell? ⟨g', i * 4, none⟩ = some (.int .i64 (o i)) ∧ w.cell? ⟨g', i * 4 + 1, none⟩ = some (.int .i64 (a i)) ∧ w.cell? ⟨g', i * 4 + 2, none⟩ = some (.int .i64 (b i)) ∧ w.cell? ⟨g', i * 4 + 3, none⟩ = some (.int .i64 (c i)) := fun i hi =>
      ⟨(h'.cellAt _ (by omega)).trans (wf i hi).1, (h'.cellAt _ (by omega)).trans (wf i hi).2.1, (h'.cellAt _ (by omega)).trans (wf i hi).2.2.1, (h'.cellAt _ (by omega)).trans (wf i hi).2.2.2⟩
    clear h h' wf
    have hn2 : (n : Int) ≤ 1000000 := by omega
    go_enter Tryd.func13, Tryd.ntmps13
    go_wp2
    go_loopw [5] (fun i wr => ∃ k : Nat, k ≤ n ∧ i = .int .i64 k ∧ Below w.heap.size w wr) (fun i _ => n - (intOf i).toNat)
    case atStart => exact ⟨0, Nat.zero_le _, rfl, Below.refl _ _⟩
    case round =>
      obtain ⟨k, hk, rfl, hbel⟩ := hrel
      by_cases hkn : k < n
      · have hkI : (k : Int) < n := by omega
        obtain ⟨t0, t1, t2, t3⟩ := q k hkn
        obtain ⟨r0, r1, r2, r3⟩ := q' k hkn
        have hg : g < w.heap.size := World.block_lt_of_cell? w _ t0
        have hg' : g' < w.heap.size := World.block_lt_of_cell? w _ r0
        have s0 := (hbel.cell (p := ⟨g, k * 4, none⟩) hg).trans t0
        have s1 := (hbel.cell (p := ⟨g, k * 4 + 1, none⟩) hg).trans t1
        have s2 := (hbel.cell (p := ⟨g, k * 4 + 2, none⟩) hg).trans t2
        have s3 := (hbel.cell (p := ⟨g, k * 4 + 3, none⟩) hg).trans t3
        have p0 := (hbel.cell (p := ⟨g', k * 4, none⟩) hg').trans r0
        have p1 := (hbel.cell (p := ⟨g', k * 4 + 1, none⟩) hg').trans r1
        have p2 := (hbel.cell (p := ⟨g', k * 4 + 2, none⟩) hg').trans r2
        have p3 := (hbel.cell (p := ⟨g', k * 4 + 3, none⟩) hg').trans r3
        clear t0 t1 t2 t3 r0 r1 r2 r3 q q'
        go_wp2
        go_quiet (fail)
        go_wp2
        go_roundw
        case rel => exact ⟨k + 1, by omega, by go_num, ⟨hbel.os, hbel.tape, hbel.output, hbel.size, hbel.block⟩⟩
        case measure => simp [intOf]; omega
      · obtain rfl : k = n := by omega
        clear q q'
        go_wp2
        go_ret
        exact ⟨rfl, hbel⟩
end Go.Proofs.YtbddgcaobcpanaaDoor.SameCode
