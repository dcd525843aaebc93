/-
  WHAT THE DOCUMENT'S ANSWER DidOf GIVES AT And, Or, Xor, bit by bit, for every two words: the call returns and changes nothing.
  Conditions: each contract's own hypotheses.
-/
import Derived.Test.YtaindklgmcdnnaaRef
import Derived.Deep.RegionWith
namespace Go.Proofs.Ytaindklgmcdnnaa.Ref
open Go.RowKit Plain

theorem inside (n lo hi : Int) (h1 : lo ≤ n) (h2 : n ≤ hi) (w : World) :
    Calls Try.prog 12 #[.int .i64 n, .int .i64 lo, .int .i64 hi] w fun e w' => e = .returned (.bool true) ∧ w' = w := by
  go_enter Try.func12, Try.ntmps12
  go_wp2
  go_ret
  exact ⟨rfl, rfl⟩

theorem isWord (n : Int) (h1 : 0 ≤ n) (h2 : n ≤ 65535) (w : World) :
    Calls Try.prog 7 #[.int .i64 n] w fun e w' => e = .returned (.bool true) ∧ w' = w := by
  go_enter Try.func7, Try.ntmps7
  go_wp2
  go_ret
  exact ⟨rfl, rfl⟩

theorem bitIs (n i : Nat) (v : Bool) (hn : n ≤ 65535) (hi : i ≤ 16) (hv : n.testBit i = v) (w : World) :
    Calls Try.prog 14 #[.int .i64 n, .int .i64 i] w fun e w' => e = .returned (.int .i64 (v.toNat : Int)) ∧ w' = w := by
  subst hv
  exact bit n i hn hi w

theorem bitOn (n i : Nat) (hn : n ≤ 65535) (hi : i ≤ 16) (hv : n.testBit i = true) (w : World) :
    Calls Try.prog 14 #[.int .i64 n, .int .i64 i] w fun e w' => e = .returned (.int .i64 1) ∧ w' = w := bitIs n i true hn hi hv w

theorem bitOff (n i : Nat) (hn : n ≤ 65535) (hi : i ≤ 16) (hv : n.testBit i = false) (w : World) :
    Calls Try.prog 14 #[.int .i64 n, .int .i64 i] w fun e w' => e = .returned (.int .i64 0) ∧ w' = w := bitIs n i false hn hi hv w

theorem ok4 (a b : Nat) (ha : a ≤ 65535) (hb : b ≤ 65535) (w : World) :
    Calls Try.prog 9 #[.int .i64 4, .int .i64 a, .int .i64 b] w fun e w' => e = .returned (.tuple #[.int .i64 (wdo 4 a b), .int .i64 0]) ∧ w' = w := by
  have ha2 : (a : Int) ≤ 65535 := by omega
  have hb2 : (b : Int) ≤ 65535 := by omega
  have hwd : wdo 4 a b = ((a &&& b : Nat) : Int) := by simp [wdo]
  have hlt : (a &&& b) < 65536 := and_lt a b hb
  have htb : ∀ i, (a &&& b).testBit i = (a.testBit i && b.testBit i) := fun i => Nat.testBit_and a b i
  rw [hwd]
  generalize (a &&& b) = z at hlt htb
  go_enter Try.func9, Try.ntmps9
  go_wp2_with (first
    | (go_at_call 12; refine (inside _ _ _ (by decide) (by decide) _).mono ?_; rintro e w' ⟨rfl, rfl⟩)
    | (go_at_call_of 7 (Value.int .i64 a); refine (isWord _ (by omega) ha2 _).mono ?_; rintro e w' ⟨rfl, rfl⟩)
    | (go_at_call_of 7 (Value.int .i64 b); refine (isWord _ (by omega) hb2 _).mono ?_; rintro e w' ⟨rfl, rfl⟩))
  go_loop [8, 11, 12] (fun x u y => ∃ k m p : Nat, k ≤ 16 ∧ z % 2 ^ k = m ∧ 2 ^ k = p ∧ y = .int .i64 (k : Int) ∧ x = .int .i64 (m : Int) ∧ u = .int .i64 (p : Int)) (fun _ _ y => 16 - (intOf y).toNat)
  case atStart => exact ⟨0, 0, 1, Nat.zero_le _, by omega, rfl, by simp, by simp, by simp⟩
  case round =>
    obtain ⟨k, m, p, hk, hm, hp, rfl, rfl, rfl⟩ := hrel
    by_cases hk16 : k = 16
    · subst hk16
      have hz : z % 2 ^ 16 = z := Nat.mod_eq_of_lt (by omega)
      go_wp2
      go_ret2
      refine ⟨?_, rfl⟩
      rw [← hm, hz]
      rfl
    · have hklt : k < 16 := by omega
      have hkp : p ≤ 32768 := by rw [← hp]; exact Nat.pow_le_pow_right (n := 2) (by decide) (show k ≤ 15 by omega)
      have hmp : m < p := by rw [← hm, ← hp]; exact Nat.mod_lt _ (Nat.two_pow_pos k)
      have hstep := low_step z k
      have hpow : 2 ^ (k + 1) = 2 * p := by rw [Nat.pow_succ, hp]; omega
      rw [hm, htb k, hp] at hstep
      clear htb hm hp
      cases hx : a.testBit k
      · cases hy : b.testBit k
        · rw [hx, hy] at hstep
          go_wp2_with (first
            | (go_at_call_of 14 (Value.int .i64 a); refine (bitOff a k ha (by omega) hx _).mono ?_; rintro e w' ⟨rfl, rfl⟩)
            | (go_at_call_of 14 (Value.int .i64 b); refine (bitOff b k hb (by omega) hy _).mono ?_; rintro e w' ⟨rfl, rfl⟩))
          go_round
          case rel => exact ⟨k + 1, m, 2 * p, by omega, by simpa using hstep, hpow, by go_num, by go_num, by go_num⟩
          case measure => simp only [intOf]; omega
        · rw [hx, hy] at hstep
          go_wp2_with (first
            | (go_at_call_of 14 (Value.int .i64 a); refine (bitOff a k ha (by omega) hx _).mono ?_; rintro e w' ⟨rfl, rfl⟩)
            | (go_at_call_of 14 (Value.int .i64 b); refine (bitOn b k hb (by omega) hy _).mono ?_; rintro e w' ⟨rfl, rfl⟩))
          go_round
          case rel => exact ⟨k + 1, m, 2 * p, by omega, by simpa using hstep, hpow, by go_num, by go_num, by go_num⟩
          case measure => simp only [intOf]; omega
      · cases hy : b.testBit k
        · rw [hx, hy] at hstep
          go_wp2_with (first
            | (go_at_call_of 14 (Value.int .i64 a); refine (bitOn a k ha (by omega) hx _).mono ?_; rintro e w' ⟨rfl, rfl⟩)
            | (go_at_call_of 14 (Value.int .i64 b); refine (bitOff b k hb (by omega) hy _).mono ?_; rintro e w' ⟨rfl, rfl⟩))
          go_round
          case rel => exact ⟨k + 1, m, 2 * p, by omega, by simpa using hstep, hpow, by go_num, by go_num, by go_num⟩
          case measure => simp only [intOf]; omega
        · rw [hx, hy] at hstep
          go_wp2_with (first
            | (go_at_call_of 14 (Value.int .i64 a); refine (bitOn a k ha (by omega) hx _).mono ?_; rintro e w' ⟨rfl, rfl⟩)
            | (go_at_call_of 14 (Value.int .i64 b); refine (bitOn b k hb (by omega) hy _).mono ?_; rintro e w' ⟨rfl, rfl⟩))
          go_round
          case rel => exact ⟨k + 1, m + p, 2 * p, by omega, by simpa using hstep, hpow, by go_num, by go_num, by go_num⟩
          case measure => simp only [intOf]; omega

theorem ok5 (a b : Nat) (ha : a ≤ 65535) (hb : b ≤ 65535) (w : World) :
    Calls Try.prog 9 #[.int .i64 5, .int .i64 a, .int .i64 b] w fun e w' => e = .returned (.tuple #[.int .i64 (wdo 5 a b), .int .i64 0]) ∧ w' = w := by
  have ha2 : (a : Int) ≤ 65535 := by omega
  have hb2 : (b : Int) ≤ 65535 := by omega
  have hwd : wdo 5 a b = ((a ||| b : Nat) : Int) := by simp [wdo]
  have hlt : (a ||| b) < 65536 := or_lt a b ha hb
  have htb : ∀ i, (a ||| b).testBit i = (a.testBit i || b.testBit i) := fun i => Nat.testBit_or a b i
  rw [hwd]
  generalize (a ||| b) = z at hlt htb
  go_enter Try.func9, Try.ntmps9
  go_wp2_with (first
    | (go_at_call 12; refine (inside _ _ _ (by decide) (by decide) _).mono ?_; rintro e w' ⟨rfl, rfl⟩)
    | (go_at_call_of 7 (Value.int .i64 a); refine (isWord _ (by omega) ha2 _).mono ?_; rintro e w' ⟨rfl, rfl⟩)
    | (go_at_call_of 7 (Value.int .i64 b); refine (isWord _ (by omega) hb2 _).mono ?_; rintro e w' ⟨rfl, rfl⟩))
  go_loop [8, 11, 12] (fun x u y => ∃ k m p : Nat, k ≤ 16 ∧ z % 2 ^ k = m ∧ 2 ^ k = p ∧ y = .int .i64 (k : Int) ∧ x = .int .i64 (m : Int) ∧ u = .int .i64 (p : Int)) (fun _ _ y => 16 - (intOf y).toNat)
  case atStart => exact ⟨0, 0, 1, Nat.zero_le _, by omega, rfl, by simp, by simp, by simp⟩
  case round =>
    obtain ⟨k, m, p, hk, hm, hp, rfl, rfl, rfl⟩ := hrel
    by_cases hk16 : k = 16
    · subst hk16
      have hz : z % 2 ^ 16 = z := Nat.mod_eq_of_lt (by omega)
      go_wp2
      go_ret2
      refine ⟨?_, rfl⟩
      rw [← hm, hz]
      rfl
    · have hklt : k < 16 := by omega
      have hkp : p ≤ 32768 := by rw [← hp]; exact Nat.pow_le_pow_right (n := 2) (by decide) (show k ≤ 15 by omega)
      have hmp : m < p := by rw [← hm, ← hp]; exact Nat.mod_lt _ (Nat.two_pow_pos k)
      have hstep := low_step z k
      have hpow : 2 ^ (k + 1) = 2 * p := by rw [Nat.pow_succ, hp]; omega
      rw [hm, htb k, hp] at hstep
      clear htb hm hp
      cases hx : a.testBit k
      · cases hy : b.testBit k
        · rw [hx, hy] at hstep
          go_wp2_with (first
            | (go_at_call_of 14 (Value.int .i64 a); refine (bitOff a k ha (by omega) hx _).mono ?_; rintro e w' ⟨rfl, rfl⟩)
            | (go_at_call_of 14 (Value.int .i64 b); refine (bitOff b k hb (by omega) hy _).mono ?_; rintro e w' ⟨rfl, rfl⟩))
          go_round
          case rel => exact ⟨k + 1, m, 2 * p, by omega, by simpa using hstep, hpow, by go_num, by go_num, by go_num⟩
          case measure => simp only [intOf]; omega
        · rw [hx, hy] at hstep
          go_wp2_with (first
            | (go_at_call_of 14 (Value.int .i64 a); refine (bitOff a k ha (by omega) hx _).mono ?_; rintro e w' ⟨rfl, rfl⟩)
            | (go_at_call_of 14 (Value.int .i64 b); refine (bitOn b k hb (by omega) hy _).mono ?_; rintro e w' ⟨rfl, rfl⟩))
          go_round
          case rel => exact ⟨k + 1, m + p, 2 * p, by omega, by simpa using hstep, hpow, by go_num, by go_num, by go_num⟩
          case measure => simp only [intOf]; omega
      · cases hy : b.testBit k
        · rw [hx, hy] at hstep
          go_wp2_with (first
            | (go_at_call_of 14 (Value.int .i64 a); refine (bitOn a k ha (by omega) hx _).mono ?_; rintro e w' ⟨rfl, rfl⟩)
            | (go_at_call_of 14 (Value.int .i64 b); refine (bitOff b k hb (by omega) hy _).mono ?_; rintro e w' ⟨rfl, rfl⟩))
          go_round
          case rel => exact ⟨k + 1, m + p, 2 * p, by omega, by simpa using hstep, hpow, by go_num, by go_num, by go_num⟩
          case measure => simp only [intOf]; omega
        · rw [hx, hy] at hstep
          go_wp2_with (first
            | (go_at_call_of 14 (Value.int .i64 a); refine (bitOn a k ha (by omega) hx _).mono ?_; rintro e w' ⟨rfl, rfl⟩)
            | (go_at_call_of 14 (Value.int .i64 b); refine (bitOn b k hb (by omega) hy _).mono ?_; rintro e w' ⟨rfl, rfl⟩))
          go_round
          case rel => exact ⟨k + 1, m + p, 2 * p, by omega, by simpa using hstep, hpow, by go_num, by go_num, by go_num⟩
          case measure => simp only [intOf]; omega

theorem ok6 (a b : Nat) (ha : a ≤ 65535) (hb : b ≤ 65535) (w : World) :
    Calls Try.prog 9 #[.int .i64 6, .int .i64 a, .int .i64 b] w fun e w' => e = .returned (.tuple #[.int .i64 (wdo 6 a b), .int .i64 0]) ∧ w' = w := by
  have ha2 : (a : Int) ≤ 65535 := by omega
  have hb2 : (b : Int) ≤ 65535 := by omega
  have hwd : wdo 6 a b = ((a ^^^ b : Nat) : Int) := by simp [wdo]
  have hlt : (a ^^^ b) < 65536 := xor_lt a b ha hb
  have htb : ∀ i, (a ^^^ b).testBit i = (Bool.xor (a.testBit i) (b.testBit i)) := fun i => Nat.testBit_xor a b i
  rw [hwd]
  generalize (a ^^^ b) = z at hlt htb
  go_enter Try.func9, Try.ntmps9
  go_wp2_with (first
    | (go_at_call 12; refine (inside _ _ _ (by decide) (by decide) _).mono ?_; rintro e w' ⟨rfl, rfl⟩)
    | (go_at_call_of 7 (Value.int .i64 a); refine (isWord _ (by omega) ha2 _).mono ?_; rintro e w' ⟨rfl, rfl⟩)
    | (go_at_call_of 7 (Value.int .i64 b); refine (isWord _ (by omega) hb2 _).mono ?_; rintro e w' ⟨rfl, rfl⟩))
  go_loop [8, 11, 12] (fun x u y => ∃ k m p : Nat, k ≤ 16 ∧ z % 2 ^ k = m ∧ 2 ^ k = p ∧ y = .int .i64 (k : Int) ∧ x = .int .i64 (m : Int) ∧ u = .int .i64 (p : Int)) (fun _ _ y => 16 - (intOf y).toNat)
  case atStart => exact ⟨0, 0, 1, Nat.zero_le _, by omega, rfl, by simp, by simp, by simp⟩
  case round =>
    obtain ⟨k, m, p, hk, hm, hp, rfl, rfl, rfl⟩ := hrel
    by_cases hk16 : k = 16
    · subst hk16
      have hz : z % 2 ^ 16 = z := Nat.mod_eq_of_lt (by omega)
      go_wp2
      go_ret2
      refine ⟨?_, rfl⟩
      rw [← hm, hz]
      rfl
    · have hklt : k < 16 := by omega
      have hkp : p ≤ 32768 := by rw [← hp]; exact Nat.pow_le_pow_right (n := 2) (by decide) (show k ≤ 15 by omega)
      have hmp : m < p := by rw [← hm, ← hp]; exact Nat.mod_lt _ (Nat.two_pow_pos k)
      have hstep := low_step z k
      have hpow : 2 ^ (k + 1) = 2 * p := by rw [Nat.pow_succ, hp]; omega
      rw [hm, htb k, hp] at hstep
      clear htb hm hp
      cases hx : a.testBit k
      · cases hy : b.testBit k
        · rw [hx, hy] at hstep
          go_wp2_with (first
            | (go_at_call_of 14 (Value.int .i64 a); refine (bitOff a k ha (by omega) hx _).mono ?_; rintro e w' ⟨rfl, rfl⟩)
            | (go_at_call_of 14 (Value.int .i64 b); refine (bitOff b k hb (by omega) hy _).mono ?_; rintro e w' ⟨rfl, rfl⟩))
          go_round
          case rel => exact ⟨k + 1, m, 2 * p, by omega, by simpa using hstep, hpow, by go_num, by go_num, by go_num⟩
          case measure => simp only [intOf]; omega
        · rw [hx, hy] at hstep
          go_wp2_with (first
            | (go_at_call_of 14 (Value.int .i64 a); refine (bitOff a k ha (by omega) hx _).mono ?_; rintro e w' ⟨rfl, rfl⟩)
            | (go_at_call_of 14 (Value.int .i64 b); refine (bitOn b k hb (by omega) hy _).mono ?_; rintro e w' ⟨rfl, rfl⟩))
          go_round
          case rel => exact ⟨k + 1, m + p, 2 * p, by omega, by simpa using hstep, hpow, by go_num, by go_num, by go_num⟩
          case measure => simp only [intOf]; omega
      · cases hy : b.testBit k
        · rw [hx, hy] at hstep
          go_wp2_with (first
            | (go_at_call_of 14 (Value.int .i64 a); refine (bitOn a k ha (by omega) hx _).mono ?_; rintro e w' ⟨rfl, rfl⟩)
            | (go_at_call_of 14 (Value.int .i64 b); refine (bitOff b k hb (by omega) hy _).mono ?_; rintro e w' ⟨rfl, rfl⟩))
          go_round
          case rel => exact ⟨k + 1, m + p, 2 * p, by omega, by simpa using hstep, hpow, by go_num, by go_num, by go_num⟩
          case measure => simp only [intOf]; omega
        · rw [hx, hy] at hstep
          go_wp2_with (first
            | (go_at_call_of 14 (Value.int .i64 a); refine (bitOn a k ha (by omega) hx _).mono ?_; rintro e w' ⟨rfl, rfl⟩)
            | (go_at_call_of 14 (Value.int .i64 b); refine (bitOn b k hb (by omega) hy _).mono ?_; rintro e w' ⟨rfl, rfl⟩))
          go_round
          case rel => exact ⟨k + 1, m, 2 * p, by omega, by simpa using hstep, hpow, by go_num, by go_num, by go_num⟩
          case measure => simp only [intOf]; omega

end Go.Proofs.Ytaindklgmcdnnaa.Ref
