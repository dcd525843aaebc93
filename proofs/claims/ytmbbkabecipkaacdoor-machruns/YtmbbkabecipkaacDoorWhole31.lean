/-
  WHAT THE DOCUMENT'S ANSWER DidOf GIVES AT And, Or, Xor, bit by bit, for every two words: the call returns and changes nothing.
  Conditions: each contract's own hypotheses.
  WHAT THE DOCUMENT's DidOf GIVES as its first answer, whatever it is handed.
  Conditions: it is an operation.
-/
import Derived.Test.YtmbbkabecipkaacDoorWhole30
import Derived.Deep.RegionWith
import Derived.Test.YtmbbkabecipkaacDoorWhole11
namespace Go.Proofs.YtmbbkabecipkaacDoor.Ref
open Go.RowKit Plain

theorem inside (n lo hi : Int) (h1 : lo ≤ n) (h2 : n ≤ hi) (w : World) :
    Calls Tryd.prog 27 #[.int .i64 n, .int .i64 lo, .int .i64 hi] w fun e w' => e = .returned (.bool true) ∧ w' = w := by
  go_enter Tryd.func27, Tryd.ntmps27
  go_wp2
  go_ret
  exact ⟨rfl, rfl⟩

theorem isWord (n : Int) (h1 : 0 ≤ n) (h2 : n ≤ 65535) (w : World) :
    Calls Tryd.prog 28 #[.int .i64 n] w fun e w' => e = .returned (.bool true) ∧ w' = w := by
  go_enter Tryd.func28, Tryd.ntmps28
  go_wp2
  go_ret
  exact ⟨rfl, rfl⟩

theorem bitIs (n i : Nat) (v : Bool) (hn : n ≤ 65535) (hi : i ≤ 16) (hv : n.testBit i = v) (w : World) :
    Calls Tryd.prog 42 #[.int .i64 n, .int .i64 i] w fun e w' => e = .returned (.int .i64 (v.toNat : Int)) ∧ w' = w := by
  subst hv
  exact bit n i hn hi w

theorem bitOn (n i : Nat) (hn : n ≤ 65535) (hi : i ≤ 16) (hv : n.testBit i = true) (w : World) :
    Calls Tryd.prog 42 #[.int .i64 n, .int .i64 i] w fun e w' => e = .returned (.int .i64 1) ∧ w' = w := bitIs n i true hn hi hv w

theorem bitOff (n i : Nat) (hn : n ≤ 65535) (hi : i ≤ 16) (hv : n.testBit i = false) (w : World) :
    Calls Tryd.prog 42 #[.int .i64 n, .int .i64 i] w fun e w' => e = .returned (.int .i64 0) ∧ w' = w := bitIs n i false hn hi hv w

theorem ok4 (a b : Nat) (ha : a ≤ 65535) (hb : b ≤ 65535) (w : World) :
    Calls Tryd.prog 29 #[.int .i64 4, .int .i64 a, .int .i64 b] w fun e w' => e = .returned (.tuple #[.int .i64 (wdo 4 a b), .int .i64 0]) ∧ w' = w := by
  have ha2 : (a : Int) ≤ 65535 := by omega
  have hb2 : (b : Int) ≤ 65535 := by omega
  have hwd : wdo 4 a b = ((a &&& b : Nat) : Int) := by simp [wdo]
  have hlt : (a &&& b) < 65536 := and_lt a b hb
  have htb : ∀ i, (a &&& b).testBit i = (a.testBit i && b.testBit i) := fun i => Nat.testBit_and a b i
  rw [hwd]
  generalize (a &&& b) = z at hlt htb
  go_enter Tryd.func29, Tryd.ntmps29
  go_wp2_with (first
    | (go_at_call 27; refine (inside _ _ _ (by decide) (by decide) _).mono ?_; rintro e w' ⟨rfl, rfl⟩)
    | (go_at_call_of 28 (Value.int .i64 a); refine (isWord _ (by omega) ha2 _).mono ?_; rintro e w' ⟨rfl, rfl⟩)
    | (go_at_call_of 28 (Value.int .i64 b); refine (isWord _ (by omega) hb2 _).mono ?_; rintro e w' ⟨rfl, rfl⟩))
  go_loop [8, 11, 12] (fun x u y => ∃ k m p : Nat, k ≤ 16 ∧ z % 2 ^ k = m ∧ 2 ^ k = p ∧ y = .int .i64 (k : Int) ∧ x = .int .i64 (m : Int) ∧ u = .int .i64 (p : Int)) (fun _ _ y => 16 - (intOf y).toNat)
  case atStart => exact ⟨0, 0, 1, Nat.zero_le _, by omega, rfl, by simp, by simp, by simp⟩
  case round =>
    obtain ⟨k, m, p, hk, hm, hp, rfl, rfl, rfl⟩ := hrel
    by_cases hk16 : k = 16
    · subst hk16
      have hz : z % 2 ^ 16 = z := Nat.mod_eq_of_lt (by omega)
      go_wp2
      go_ret2
      refine ⟨?_, rfl⟩
      rw [← hm, hz]
      rfl
    · have hklt : k < 16 := by omega
      have hkp : p ≤ 32768 := by rw [← hp]; exact Nat.pow_le_pow_right (n := 2) (by decide) (show k ≤ 15 by omega)
      have hmp : m < p := by rw [← hm, ← hp]; exact Nat.mod_lt _ (Nat.two_pow_pos k)
      have hstep := low_step z k
      have hpow : 2 ^ (k + 1) = 2 * p := by rw [Nat.pow_succ, hp]; omega
      rw [hm, htb k, hp] at hstep
      clear htb hm hp
      cases hx : a.testBit k
      · cases hy : b.testBit k
        · rw [hx, hy] at hstep
          go_wp2_with (first
            | (go_at_call_of 42 (Value.int .i64 a); refine (bitOff a k ha (by omega) hx _).mono ?_; rintro e w' ⟨rfl, rfl⟩)
            | (go_at_call_of 42 (Value.int .i64 b); refine (bitOff b k hb (by omega) hy _).mono ?_; rintro e w' ⟨rfl, rfl⟩))
          go_round
          case rel => exact ⟨k + 1, m, 2 * p, by omega, by simpa using hstep, hpow, by go_num, by go_num, by go_num⟩
          case measure => simp only [intOf]; omega
        · rw [hx, hy] at hstep
          go_wp2_with (first
            | (go_at_call_of 42 (Value.int .i64 a); refine (bitOff a k ha (by omega) hx _).mono ?_; rintro e w' ⟨rfl, rfl⟩)
            | (go_at_call_of 42 (Value.int .i64 b); refine (bitOn b k hb (by omega) hy _).mono ?_; rintro e w' ⟨rfl, rfl⟩))
          go_round
          case rel => exact ⟨k + 1, m, 2 * p, by omega, by simpa using hstep, hpow, by go_num, by go_num, by go_num⟩
          case measure => simp only [intOf]; omega
      · cases hy : b.testBit k
        · rw [hx, hy] at hstep
          go_wp2_with (first
            | (go_at_call_of 42 (Value.int .i64 a); refine (bitOn a k ha (by omega) hx _).mono ?_; rintro e w' ⟨rfl, rfl⟩)
            | (go_at_call_of 42 (Value.int .i64 b); refine (bitOff b k hb (by omega) hy _).mono ?_; rintro e w' ⟨rfl, rfl⟩))
          go_round
          case rel => exact ⟨k + 1, m, 2 * p, by omega, by simpa using hstep, hpow, by go_num, by go_num, by go_num⟩
          case measure => simp only [intOf]; omega
        · rw [hx, hy] at hstep
          go_wp2_with (first
            | (go_at_call_of 42 (Value.int .i64 a); refine (bitOn a k ha (by omega) hx _).mono ?_; rintro e w' ⟨rfl, rfl⟩)
            | (go_at_call_of 42 (Value.int .i64 b); refine (bitOn b k hb (by omega) hy _).mono ?_; rintro e w' ⟨rfl, rfl⟩))
          go_round
          case rel => exact ⟨k + 1, m + p, 2 * p, by omega, by simpa using hstep, hpow, by go_num, by go_num, by go_num⟩
          case measure => simp only [intOf]; omega

theorem ok5 (a b : Nat) (ha : a ≤ 65535) (hb : b ≤ 65535) (w : World) :
    Calls Tryd.prog 29 #[.int .i64 5, .int .i64 a, .int .i64 b] w fun e w' => e = .returned (.tuple #[.int .i64 (wdo 5 a b), .int .i64 0]) ∧ w' = w := by
  have ha2 : (a : Int) ≤ 65535 := by omega
  have hb2 : (b : Int) ≤ 65535 := by omega
  have hwd : wdo 5 a b = ((a ||| b : Nat) : Int) := by simp [wdo]
  have hlt : (a ||| b) < 65536 := or_lt a b ha hb
  have htb : ∀ i, (a ||| b).testBit i = (a.testBit i || b.testBit i) := fun i => Nat.testBit_or a b i
  rw [hwd]
  generalize (a ||| b) = z at hlt htb
  go_enter Tryd.func29, Tryd.ntmps29
  go_wp2_with (first
    | (go_at_call 27; refine (inside _ _ _ (by decide) (by decide) _).mono ?_; rintro e w' ⟨rfl, rfl⟩)
    | (go_at_call_of 28 (Value.int .i64 a); refine (isWord _ (by omega) ha2 _).mono ?_; rintro e w' ⟨rfl, rfl⟩)
    | (go_at_call_of 28 (Value.int .i64 b); refine (isWord _ (by omega) hb2 _).mono ?_; rintro e w' ⟨rfl, rfl⟩))
  go_loop [8, 11, 12] (fun x u y => ∃ k m p : Nat, k ≤ 16 ∧ z % 2 ^ k = m ∧ 2 ^ k = p ∧ y = .int .i64 (k : Int) ∧ x = .int .i64 (m : Int) ∧ u = .int .i64 (p : Int)) (fun _ _ y => 16 - (intOf y).toNat)
  case atStart => exact ⟨0, 0, 1, Nat.zero_le _, by omega, rfl, by simp, by simp, by simp⟩
  case round =>
    obtain ⟨k, m, p, hk, hm, hp, rfl, rfl, rfl⟩ := hrel
    by_cases hk16 : k = 16
    · subst hk16
      have hz : z % 2 ^ 16 = z := Nat.mod_eq_of_lt (by omega)
      go_wp2
      go_ret2
      refine ⟨?_, rfl⟩
      rw [← hm, hz]
      rfl
    · have hklt : k < 16 := by omega
      have hkp : p ≤ 32768 := by rw [← hp]; exact Nat.pow_le_pow_right (n := 2) (by decide) (show k ≤ 15 by omega)
      have hmp : m < p := by rw [← hm, ← hp]; exact Nat.mod_lt _ (Nat.two_pow_pos k)
      have hstep := low_step z k
      have hpow : 2 ^ (k + 1) = 2 * p := by rw [Nat.pow_succ, hp]; omega
      rw [hm, htb k, hp] at hstep
      clear htb hm hp
      cases hx : a.testBit k
      · cases hy : b.testBit k
        · rw [hx, hy] at hstep
          go_wp2_with (first
            | (go_at_call_of 42 (Value.int .i64 a); refine (bitOff a k ha (by omega) hx _).mono ?_; rintro e w' ⟨rfl, rfl⟩)
            | (go_at_call_of 42 (Value.int .i64 b); refine (bitOff b k hb (by omega) hy _).mono ?_; rintro e w' ⟨rfl, rfl⟩))
          go_round
          case rel => exact ⟨k + 1, m, 2 * p, by omega, by simpa using hstep, hpow, by go_num, by go_num, by go_num⟩
          case measure => simp only [intOf]; omega
        · rw [hx, hy] at hstep
          go_wp2_with (first
            | (go_at_call_of 42 (Value.int .i64 a); refine (bitOff a k ha (by omega) hx _).mono ?_; rintro e w' ⟨rfl, rfl⟩)
            | (go_at_call_of 42 (Value.int .i64 b); refine (bitOn b k hb (by omega) hy _).mono ?_; rintro e w' ⟨rfl, rfl⟩))
          go_round
          case rel => exact ⟨k + 1, m + p, 2 * p, by omega, by simpa using hstep, hpow, by go_num, by go_num, by go_num⟩
          case measure => simp only [intOf]; omega
      · cases hy : b.testBit k
        · rw [hx, hy] at hstep
          go_wp2_with (first
            | (go_at_call_of 42 (Value.int .i64 a); refine (bitOn a k ha (by omega) hx _).mono ?_; rintro e w' ⟨rfl, rfl⟩)
            | (go_at_call_of 42 (Value.int .i64 b); refine (bitOff b k hb (by omega) hy _).mono ?_; rintro e w' ⟨rfl, rfl⟩))
          go_round
          case rel => exact ⟨k + 1, m + p, 2 * p, by omega, by simpa using hstep, hpow, by go_num, by go_num, by go_num⟩
          case measure => simp only [intOf]; omega
        · rw [hx, hy] at hstep
          go_wp2_with (first
            | (go_at_call_of 42 (Value.int .i64 a); refine (bitOn a k ha (by omega) hx _).mono ?_; rintro e w' ⟨rfl, rfl⟩)
            | (go_at_call_of 42 (Value.int .i64 b); refine (bitOn b k hb (by omega) hy _).mono ?_; rintro e w' ⟨rfl, rfl⟩))
          go_round
          case rel => exact ⟨k + 1, m + p, 2 * p, by omega, by simpa using hstep, hpow, by go_num, by go_num, by go_num⟩
          case measure => simp only [intOf]; omega

theorem ok6 (a b : Nat) (ha : a ≤ 65535) (hb : b ≤ 65535) (w : World) :
    Calls Tryd.prog 29 #[.int .i64 6, .int .i64 a, .int .i64 b] w fun e w' => e = .returned (.tuple #[.int .i64 (wdo 6 a b), .int .i64 0]) ∧ w' = w := by
  have ha2 : (a : Int) ≤ 65535 := by omega
  have hb2 : (b : Int) ≤ 65535 := by omega
  have hwd : wdo 6 a b = ((a ^^^ b : Nat) : Int) := by simp [wdo]
  have hlt : (a ^^^ b) < 65536 := xor_lt a b ha hb
  have htb : ∀ i, (a ^^^ b).testBit i = (Bool.xor (a.testBit i) (b.testBit i)) := fun i => Nat.testBit_xor a b i
  rw [hwd]
  generalize (a ^^^ b) = z at hlt htb
  go_enter Tryd.func29, Tryd.ntmps29
  go_wp2_with (first
    | (go_at_call 27; refine (inside _ _ _ (by decide) (by decide) _).mono ?_; rintro e w' ⟨rfl, rfl⟩)
    | (go_at_call_of 28 (Value.int .i64 a); refine (isWord _ (by omega) ha2 _).mono ?_; rintro e w' ⟨rfl, rfl⟩)
    | (go_at_call_of 28 (Value.int .i64 b); refine (isWord _ (by omega) hb2 _).mono ?_; rintro e w' ⟨rfl, rfl⟩))
  go_loop [8, 11, 12] (fun x u y => ∃ k m p : Nat, k ≤ 16 ∧ z % 2 ^ k = m ∧ 2 ^ k = p ∧ y = .int .i64 (k : Int) ∧ x = .int .i64 (m : Int) ∧ u = .int .i64 (p : Int)) (fun _ _ y => 16 - (intOf y).toNat)
  case atStart => exact ⟨0, 0, 1, Nat.zero_le _, by omega, rfl, by simp, by simp, by simp⟩
  case round =>
    obtain ⟨k, m, p, hk, hm, hp, rfl, rfl, rfl⟩ := hrel
    by_cases hk16 : k = 16
    · subst hk16
      have hz : z % 2 ^ 16 = z := Nat.mod_eq_of_lt (by omega)
      go_wp2
      go_ret2
      refine ⟨?_, rfl⟩
      rw [← hm, hz]
      rfl
    · have hklt : k < 16 := by omega
      have hkp : p ≤ 32768 := by rw [← hp]; exact Nat.pow_le_pow_right (n := 2) (by decide) (show k ≤ 15 by omega)
      have hmp : m < p := by rw [← hm, ← hp]; exact Nat.mod_lt _ (Nat.two_pow_pos k)
      have hstep := low_step z k
      have hpow : 2 ^ (k + 1) = 2 * p := by rw [Nat.pow_succ, hp]; omega
      rw [hm, htb k, hp] at hstep
      clear htb hm hp
      cases hx : a.testBit k
      · cases hy : b.testBit k
        · rw [hx, hy] at hstep
          go_wp2_with (first
            | (go_at_call_of 42 (Value.int .i64 a); refine (bitOff a k ha (by omega) hx _).mono ?_; rintro e w' ⟨rfl, rfl⟩)
            | (go_at_call_of 42 (Value.int .i64 b); refine (bitOff b k hb (by omega) hy _).mono ?_; rintro e w' ⟨rfl, rfl⟩))
          go_round
          case rel => exact ⟨k + 1, m, 2 * p, by omega, by simpa using hstep, hpow, by go_num, by go_num, by go_num⟩
          case measure => simp only [intOf]; omega
        · rw [hx, hy] at hstep
          go_wp2_with (first
            | (go_at_call_of 42 (Value.int .i64 a); refine (bitOff a k ha (by omega) hx _).mono ?_; rintro e w' ⟨rfl, rfl⟩)
            | (go_at_call_of 42 (Value.int .i64 b); refine (bitOn b k hb (by omega) hy _).mono ?_; rintro e w' ⟨rfl, rfl⟩))
          go_round
          case rel => exact ⟨k + 1, m + p, 2 * p, by omega, by simpa using hstep, hpow, by go_num, by go_num, by go_num⟩
          case measure => simp only [intOf]; omega
      · cases hy : b.testBit k
        · rw [hx, hy] at hstep
          go_wp2_with (first
            | (go_at_call_of 42 (Value.int .i64 a); refine (bitOn a k ha (by omega) hx _).mono ?_; rintro e w' ⟨rfl, rfl⟩)
            | (go_at_call_of 42 (Value.int .i64 b); refine (bitOff b k hb (by omega) hy _).mono ?_; rintro e w' ⟨rfl, rfl⟩))
          go_round
          case rel => exact ⟨k + 1, m + p, 2 * p, by omega, by simpa using hstep, hpow, by go_num, by go_num, by go_num⟩
          case measure => simp only [intOf]; omega
        · rw [hx, hy] at hstep
          go_wp2_with (first
            | (go_at_call_of 42 (Value.int .i64 a); refine (bitOn a k ha (by omega) hx _).mono ?_; rintro e w' ⟨rfl, rfl⟩)
            | (go_at_call_of 42 (Value.int .i64 b); refine (bitOn b k hb (by omega) hy _).mono ?_; rintro e w' ⟨rfl, rfl⟩))
          go_round
          case rel => exact ⟨k + 1, m, 2 * p, by omega, by simpa using hstep, hpow, by go_num, by go_num, by go_num⟩
          case measure => simp only [intOf]; omega

end Go.Proofs.YtmbbkabecipkaacDoor.Ref

namespace Go.Proofs.YtmbbkabecipkaacDoor.RDid
open Go.RowKit Plain ActQ

set_option maxHeartbeats 1000000 in
theorem range (op a b : Int) (h1 : 1 ≤ op) (h2 : op ≤ 10) (h : ¬ ((0 ≤ a ∧ a ≤ 65535) ∧ (0 ≤ b ∧ b ≤ 65535))) (w : World) :
    Calls Tryd.prog 29 #[.int .i64 op, .int .i64 a, .int .i64 b] w fun e w' => e = .returned (.tuple #[.int .i64 0, .int .i64 2]) ∧ w' = w := by
  by_cases c0 : 0 ≤ a
  · by_cases c1 : a ≤ 65535
    · by_cases c2 : 0 ≤ b
      · have c3 : ¬ b ≤ 65535 := by omega
        go_enter Tryd.func29, Tryd.ntmps29
        go_wp2
        go_ret2
        exact ⟨rfl, rfl⟩
      · go_enter Tryd.func29, Tryd.ntmps29
        go_wp2
        go_ret2
        exact ⟨rfl, rfl⟩
    · go_enter Tryd.func29, Tryd.ntmps29
      go_wp2
      go_ret2
      exact ⟨rfl, rfl⟩
  · go_enter Tryd.func29, Tryd.ntmps29
    go_wp2
    go_ret2
    exact ⟨rfl, rfl⟩


theorem did (op a b : Int) (h1 : 1 ≤ op) (h2 : op ≤ 10) (w : World) : Calls Tryd.prog 29 #[.int .i64 op, .int .i64 a, .int .i64 b] w fun e w' => ∃ r, e = .returned (.tuple #[.int .i64 (wdoT op a b), .int .i64 r]) ∧ w' = w := by
  by_cases h : (0 ≤ a ∧ a ≤ 65535) ∧ (0 ≤ b ∧ b ≤ 65535)
  · rw [wdoT, if_pos h]
    obtain ⟨x, rfl⟩ : ∃ x : Nat, a = x := ⟨a.toNat, by omega⟩
    obtain ⟨y, rfl⟩ : ∃ y : Nat, b = y := ⟨b.toNat, by omega⟩
    have hx : x ≤ 65535 := by omega
    have hy : y ≤ 65535 := by omega
    rcases (show op = 1 ∨ op = 2 ∨ op = 3 ∨ op = 4 ∨ op = 5 ∨ op = 6 ∨ op = 7 ∨ op = 8 ∨ op = 9 ∨ op = 10 by omega) with rfl | rfl | rfl | rfl | rfl | rfl | rfl | rfl | rfl | rfl
    · exact (Ref.ok1 x y hx hy w).mono fun e w' ⟨he, hw⟩ => ⟨0, he, hw⟩
    · exact (Ref.ok2 x y hx hy w).mono fun e w' ⟨he, hw⟩ => ⟨0, he, hw⟩
    · exact (Ref.ok3 x y hx hy w).mono fun e w' ⟨he, hw⟩ => ⟨0, he, hw⟩
    · exact (Ref.ok4 x y hx hy w).mono fun e w' ⟨he, hw⟩ => ⟨0, he, hw⟩
    · exact (Ref.ok5 x y hx hy w).mono fun e w' ⟨he, hw⟩ => ⟨0, he, hw⟩
    · exact (Ref.ok6 x y hx hy w).mono fun e w' ⟨he, hw⟩ => ⟨0, he, hw⟩
    · exact (Ref.ok7 x y hx hy w).mono fun e w' ⟨he, hw⟩ => ⟨0, he, hw⟩
    · exact (Ref.ok8 x y hx hy w).mono fun e w' ⟨he, hw⟩ => ⟨0, he, hw⟩
    · exact (Ref.ok9 x y hx hy w).mono fun e w' ⟨he, hw⟩ => ⟨0, he, hw⟩
    · exact (Ref.ok10 x y hx hy w).mono fun e w' ⟨he, hw⟩ => ⟨0, he, hw⟩
  · rw [wdoT, if_neg h]
    exact (range op a b h1 h2 h w).mono fun e w' ⟨he, hw⟩ => ⟨2, he, hw⟩
end Go.Proofs.YtmbbkabecipkaacDoor.RDid
