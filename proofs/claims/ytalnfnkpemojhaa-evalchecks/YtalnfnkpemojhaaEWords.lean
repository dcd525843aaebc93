/-
  WHAT eval.words AND THE DOCUMENT's wordsMay GIVE: are all of a list words; nothing is turned.
  Conditions: the numbers lie there.
-/
import Derived.Test.YtalnfnkpemojhaaECells
import Derived.Test.YtalnfnkpemojhaaQTop
namespace Go.Proofs.Ytalnfnkpemojhaa.EWords
open Go.RowKit ECells

/-- all are words -/
def wordsB (z : Nat → Int) (n : Nat) : Bool := decide (∀ i, i < n → 0 ≤ z i ∧ z i ≤ 65535)

theorem words_yes {z : Nat → Int} {n : Nat} (h : ∀ i, i < n → 0 ≤ z i ∧ z i ≤ 65535) : wordsB z n = true := decide_eq_true h
theorem words_no {z : Nat → Int} {n k : Nat} (hk : k < n) (h : ¬ (0 ≤ z k ∧ z k ≤ 65535)) : wordsB z n = false := decide_eq_false fun h' => h (h' k hk)

theorem words (w : World) (ao : Option Addr) (len cap : Nat) (z : Nat → Int) (hl : len ≤ maxLen) (h : Nums w ao len z) :
    Calls Try.prog 49 #[.slice ao len cap] w fun e w' => e = .returned (.bool (wordsB z len)) ∧ w' = w := by
  have HI : Hid (Nums w ao len z) := h
  have ki := fun n W => Go.Proofs.Ytalnfnkpemojhaa.Forms.is n W
  have KI : Hid _ := ki
  unfold maxLen at hl
  have hlI : (len : Int) ≤ 9223372036854775807 := by omega
  clear hl h ki
  go_enter Try.func49, Try.ntmps49
  go_wp2
  go_loop [7] (fun i => ∃ k : Nat, k ≤ len ∧ i = .int .i64 k ∧ Hid (∀ j, j < k → 0 ≤ z j ∧ z j ≤ 65535)) (fun i => len - (intOf i).toNat)
  case atStart => exact ⟨0, Nat.zero_le _, rfl, (fun j hj => absurd hj (Nat.not_lt_zero j) : ∀ j, j < 0 → 0 ≤ z j ∧ z j ≤ 65535)⟩
  case round =>
    obtain ⟨k, hk, rfl, HZ⟩ := hrel
    by_cases hkl : k < len
    · obtain ⟨bl, off, ea, s⟩ := HI.out k hkl
      have hkI : (k : Int) < len := by omega
      by_cases hx : 0 ≤ z k ∧ z k ≤ 65535
      · have NX : Hid (∀ j, j < k + 1 → 0 ≤ z j ∧ z j ≤ 65535) := fun j hj => by
          rcases Nat.lt_or_ge j k with h | h
          · exact HZ.out j h
          · obtain rfl : j = k := by omega
            exact hx
        have hd : decide (0 ≤ z k ∧ z k ≤ 65535) = true := decide_eq_true hx
        clear hx HI
        generalize z k = x at s hd
        subst ea
        go_wp2_with (go_at_call 69; refine (KI.out _ _).mono ?_; rintro e w1 ⟨he, hw⟩; rw [hd] at he; subst he; rw [hw]; clear hw w1)
        go_round
        case rel => exact ⟨k + 1, by omega, by go_num, NX⟩
        case measure => simp [intOf]; omega
      · have NW : Hid (wordsB z len = false) := words_no hkl hx
        have hd : decide (0 ≤ z k ∧ z k ≤ 65535) = false := decide_eq_false hx
        clear hx HI HZ
        generalize z k = x at s hd
        subst ea
        go_wp2_with (go_at_call 69; refine (KI.out _ _).mono ?_; rintro e w1 ⟨he, hw⟩; rw [hd] at he; subst he; rw [hw]; clear hw w1)
        go_ret
        exact ⟨by rw [NW.out]; rfl, rfl⟩
    · obtain rfl : k = len := by omega
      have YW : Hid (wordsB z k = true) := words_yes HZ.out
      clear HI HZ
      go_wp2
      go_ret
      exact ⟨by rw [YW.out]; rfl, rfl⟩

theorem wordsMay (w : World) (ao : Option Addr) (len cap : Nat) (z : Nat → Int) (m : Int) (hl : len ≤ maxLen) (h : Nums w ao len z) :
    Calls Try.prog 28 #[.slice ao len cap, .int .i64 m] w fun e w' => e = .returned (.bool (wordsB z len && ((len : Int) == m))) ∧ w' = w := by
  have HI : Hid (Nums w ao len z) := h
  have ki := fun n W => Go.Proofs.Ytalnfnkpemojhaa.Forms.isWord n W
  have KI : Hid _ := ki
  unfold maxLen at hl
  have hlI : (len : Int) ≤ 9223372036854775807 := by omega
  obtain ⟨r, er⟩ : ∃ r, r = ((len : Int) == m) := ⟨_, rfl⟩
  have ER : ((len : Int) == m) = r := er.symm
  rw [ER]
  clear hl h ki er
  go_enter Try.func28, Try.ntmps28
  go_wp2
  go_loop [5] (fun i => ∃ k : Nat, k ≤ len ∧ i = .int .i64 k ∧ Hid (∀ j, j < k → 0 ≤ z j ∧ z j ≤ 65535)) (fun i => len - (intOf i).toNat)
  case atStart => exact ⟨0, Nat.zero_le _, rfl, (fun j hj => absurd hj (Nat.not_lt_zero j) : ∀ j, j < 0 → 0 ≤ z j ∧ z j ≤ 65535)⟩
  case round =>
    obtain ⟨k, hk, rfl, HZ⟩ := hrel
    by_cases hkl : k < len
    · obtain ⟨bl, off, ea, s⟩ := HI.out k hkl
      have hkI : (k : Int) < len := by omega
      by_cases hx : 0 ≤ z k ∧ z k ≤ 65535
      · have NX : Hid (∀ j, j < k + 1 → 0 ≤ z j ∧ z j ≤ 65535) := fun j hj => by
          rcases Nat.lt_or_ge j k with h | h
          · exact HZ.out j h
          · obtain rfl : j = k := by omega
            exact hx
        have hd : decide (0 ≤ z k ∧ z k ≤ 65535) = true := decide_eq_true hx
        clear hx HI ER
        generalize z k = x at s hd
        subst ea
        go_wp2_with (go_at_call 50; refine (KI.out _ _).mono ?_; rintro e w1 ⟨he, hw⟩; rw [hd] at he; subst he; rw [hw]; clear hw w1)
        go_round
        case rel => exact ⟨k + 1, by omega, by go_num, NX⟩
        case measure => simp [intOf]; omega
      · have NW : Hid (wordsB z len = false) := words_no hkl hx
        have hd : decide (0 ≤ z k ∧ z k ≤ 65535) = false := decide_eq_false hx
        clear hx HI HZ ER
        generalize z k = x at s hd
        subst ea
        go_wp2_with (go_at_call 50; refine (KI.out _ _).mono ?_; rintro e w1 ⟨he, hw⟩; rw [hd] at he; subst he; rw [hw]; clear hw w1)
        go_ret
        exact ⟨by rw [NW.out]; rfl, rfl⟩
    · obtain rfl : k = len := by omega
      have YW : Hid (wordsB z k = true) := words_yes HZ.out
      clear HI HZ
      go_wp2
      go_ret
      exact ⟨by rw [YW.out, Bool.true_and]; rfl, rfl⟩
end Go.Proofs.Ytalnfnkpemojhaa.EWords
