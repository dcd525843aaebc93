/-
  WHAT THE DOCUMENT'S ANSWER DidOf GIVES, for every operation and every two words, and what it refuses: each call returns and changes nothing.
  Conditions: each contract's own hypotheses.
-/
import Derived.Test.YtmbbkabecipkaacDoorChecked
import Derived.Test.YtmbbkabecipkaacDoorWhole7
import Derived.WalkKit
namespace Go.Proofs.YtmbbkabecipkaacDoor.Ref
open Go.RowKit Plain

theorem half (n : Nat) (k : Nat) : n / 2 ^ k / 2 = n / 2 ^ (k + 1) := by
  rw [Nat.div_div_eq_div_mul, Nat.pow_succ]

theorem bit (n i : Nat) (hn : n ≤ 65535) (hi : i ≤ 16) (w : World) :
    Calls Tryd.prog 42 #[.int .i64 n, .int .i64 i] w fun e w' => e = .returned (.int .i64 ((n.testBit i).toNat : Int)) ∧ w' = w := by
  go_enter Tryd.func42, Tryd.ntmps42
  go_wp2
  go_loop [0, 1] (fun x y => ∃ k m : Nat, k ≤ i ∧ n / 2 ^ k = m ∧ y = .int .i64 ((i - k : Nat) : Int) ∧ x = .int .i64 (m : Int)) (fun _ y => (intOf y).toNat)
  case atStart => exact ⟨0, n, Nat.zero_le _, by simp, by simp, by simp⟩
  case round =>
    obtain ⟨k, m, hk, hm, rfl, rfl⟩ := hrel
    have hle : m ≤ n := by rw [← hm]; exact Nat.div_le_self _ _
    have hh := half n k
    go_wp2
    · go_round
      case rel => exact ⟨k + 1, m / 2, by omega, by rw [← hh, hm], by go_num, by go_num⟩
      case measure => simp only [intOf]; omega
    · go_ret
      refine ⟨?_, rfl⟩
      have : k = i := by omega
      subst this
      have hb := bit_of n k
      rw [hm] at hb
      rw [← hb]
      simp

theorem ok1 (a b : Nat) (ha : a ≤ 65535) (hb : b ≤ 65535) (w : World) :
    Calls Tryd.prog 29 #[.int .i64 1, .int .i64 a, .int .i64 b] w fun e w' => e = .returned (.tuple #[.int .i64 (wdo 1 a b), .int .i64 0]) ∧ w' = w := by
  have ha2 : (a : Int) ≤ 65535 := by omega
  have hb2 : (b : Int) ≤ 65535 := by omega
  go_enter Tryd.func29, Tryd.ntmps29
  go_wp2
  go_ret2
  exact ⟨by simp [wdo], rfl⟩

theorem ok2 (a b : Nat) (ha : a ≤ 65535) (hb : b ≤ 65535) (w : World) :
    Calls Tryd.prog 29 #[.int .i64 2, .int .i64 a, .int .i64 b] w fun e w' => e = .returned (.tuple #[.int .i64 (wdo 2 a b), .int .i64 0]) ∧ w' = w := by
  have ha2 : (a : Int) ≤ 65535 := by omega
  have hb2 : (b : Int) ≤ 65535 := by omega
  go_enter Tryd.func29, Tryd.ntmps29
  go_wp2
  go_ret2
  exact ⟨by simp [wdo]; omega, rfl⟩

theorem ok3 (a b : Nat) (ha : a ≤ 65535) (hb : b ≤ 65535) (w : World) :
    Calls Tryd.prog 29 #[.int .i64 3, .int .i64 a, .int .i64 b] w fun e w' => e = .returned (.tuple #[.int .i64 (wdo 3 a b), .int .i64 0]) ∧ w' = w := by
  have ha2 : (a : Int) ≤ 65535 := by omega
  have hb2 : (b : Int) ≤ 65535 := by omega
  have hq : 0 ≤ (a : Int) * b := Int.mul_nonneg (by omega) (by omega)
  have hq' : (a : Int) * b ≤ 65535 * 65535 := Int.mul_le_mul (by omega) (by omega) (by omega) (by decide)
  go_enter Tryd.func29, Tryd.ntmps29
  go_wp2
  go_ret2
  exact ⟨by simp [wdo], rfl⟩

theorem ok7 (a b : Nat) (ha : a ≤ 65535) (hb : b ≤ 65535) (w : World) :
    Calls Tryd.prog 29 #[.int .i64 7, .int .i64 a, .int .i64 b] w fun e w' => e = .returned (.tuple #[.int .i64 (wdo 7 a b), .int .i64 0]) ∧ w' = w := by
  have ha2 : (a : Int) ≤ 65535 := by omega
  have hb2 : (b : Int) ≤ 65535 := by omega
  by_cases c : (a : Int) < b
  · go_enter Tryd.func29, Tryd.ntmps29
    go_wp2
    go_ret2
    exact ⟨by simp [wdo]; omega, rfl⟩
  · go_enter Tryd.func29, Tryd.ntmps29
    go_wp2
    go_ret2
    exact ⟨by simp [wdo]; omega, rfl⟩

theorem ok8 (a b : Nat) (ha : a ≤ 65535) (hb : b ≤ 65535) (w : World) :
    Calls Tryd.prog 29 #[.int .i64 8, .int .i64 a, .int .i64 b] w fun e w' => e = .returned (.tuple #[.int .i64 (wdo 8 a b), .int .i64 0]) ∧ w' = w := by
  have ha2 : (a : Int) ≤ 65535 := by omega
  have hb2 : (b : Int) ≤ 65535 := by omega
  by_cases c : (a : Int) = b
  · go_enter Tryd.func29, Tryd.ntmps29
    go_wp2
    go_ret2
    exact ⟨by simp [wdo]; omega, rfl⟩
  · go_enter Tryd.func29, Tryd.ntmps29
    go_wp2
    go_ret2
    exact ⟨by simp [wdo]; omega, rfl⟩

theorem dbl (a k : Nat) : 2 * (a * 2 ^ k % 65536) % 65536 = a * 2 ^ (k + 1) % 65536 := by
  have h : a * 2 ^ (k + 1) = 2 * (a * 2 ^ k) := by rw [Nat.pow_succ]; ac_rfl
  omega

theorem ok9 (a b : Nat) (ha : a ≤ 65535) (hb : b ≤ 65535) (w : World) :
    Calls Tryd.prog 29 #[.int .i64 9, .int .i64 a, .int .i64 b] w fun e w' => e = .returned (.tuple #[.int .i64 (wdo 9 a b), .int .i64 0]) ∧ w' = w := by
  have ha2 : (a : Int) ≤ 65535 := by omega
  have hb2 : (b : Int) ≤ 65535 := by omega
  have hs : ((b : Int) % 16).toNat = b % 16 := by omega
  go_enter Tryd.func29, Tryd.ntmps29
  go_wp2
  go_loop [8, 9] (fun x y => ∃ k m : Nat, k ≤ b % 16 ∧ a * 2 ^ k % 65536 = m ∧ y = .int .i64 (k : Int) ∧ x = .int .i64 (m : Int)) (fun _ y => b % 16 - (intOf y).toNat)
  case atStart => exact ⟨0, a, Nat.zero_le _, by omega, by simp, by simp⟩
  case round =>
    obtain ⟨k, m, hk, hm, rfl, rfl⟩ := hrel
    have hle : m < 65536 := by omega
    have hh := dbl a k
    rw [hm] at hh
    go_wp2
    · go_round
      case rel => exact ⟨k + 1, 2 * m % 65536, by omega, hh.symm, by go_num, by go_num⟩
      case measure => simp only [intOf]; omega
    · go_ret2
      refine ⟨?_, rfl⟩
      have : k = b % 16 := by omega
      subst this
      rw [← hm]
      simp [wdo, hs]

theorem ok10 (a b : Nat) (ha : a ≤ 65535) (hb : b ≤ 65535) (w : World) :
    Calls Tryd.prog 29 #[.int .i64 10, .int .i64 a, .int .i64 b] w fun e w' => e = .returned (.tuple #[.int .i64 (wdo 10 a b), .int .i64 0]) ∧ w' = w := by
  have ha2 : (a : Int) ≤ 65535 := by omega
  have hb2 : (b : Int) ≤ 65535 := by omega
  have hs : ((b : Int) % 16).toNat = b % 16 := by omega
  go_enter Tryd.func29, Tryd.ntmps29
  go_wp2
  go_loop [8, 10] (fun x y => ∃ k m : Nat, k ≤ b % 16 ∧ a / 2 ^ k = m ∧ y = .int .i64 (k : Int) ∧ x = .int .i64 (m : Int)) (fun _ y => b % 16 - (intOf y).toNat)
  case atStart => exact ⟨0, a, Nat.zero_le _, by simp, by simp, by simp⟩
  case round =>
    obtain ⟨k, m, hk, hm, rfl, rfl⟩ := hrel
    have hle : m ≤ a := by rw [← hm]; exact Nat.div_le_self _ _
    have hh := half a k
    rw [hm] at hh
    go_wp2
    · go_round
      case rel => exact ⟨k + 1, m / 2, by omega, hh.symm, by go_num, by go_num⟩
      case measure => simp only [intOf]; omega
    · go_ret2
      refine ⟨?_, rfl⟩
      have : k = b % 16 := by omega
      subst this
      rw [← hm]
      simp [wdo, hs]

end Go.Proofs.YtmbbkabecipkaacDoor.Ref
