/-
  WHAT word.Do GIVES, for every operation and every two words, and what it refuses: each call returns and changes nothing.
  Conditions: each contract's own hypotheses.
-/
import Derived.Test.YtmmcpjmgindpkacDoorChecked
import Derived.Test.YtmmcpjmgindpkacDoorPlain
import Derived.WalkKit
namespace Go.Proofs.YtmmcpjmgindpkacDoor.Do
open Go.RowKit Plain

theorem ok1 (a b : Int) (ha : 0 ≤ a) (ha' : a ≤ 65535) (hb : 0 ≤ b) (hb' : b ≤ 65535) (w : World) :
    Calls Tryd.prog 18 #[.int .i64 1, .int .i64 a, .int .i64 b] w fun e w' => e = .returned (.tuple #[.int .i64 (wdo 1 a b), .int .i64 0]) ∧ w' = w := by
  go_enter Tryd.func18, Tryd.ntmps18
  go_wp2
  go_ret2
  exact ⟨by simp [wdo, mask16], rfl⟩

theorem ok2 (a b : Int) (ha : 0 ≤ a) (ha' : a ≤ 65535) (hb : 0 ≤ b) (hb' : b ≤ 65535) (w : World) :
    Calls Tryd.prog 18 #[.int .i64 2, .int .i64 a, .int .i64 b] w fun e w' => e = .returned (.tuple #[.int .i64 (wdo 2 a b), .int .i64 0]) ∧ w' = w := by
  go_enter Tryd.func18, Tryd.ntmps18
  go_wp2
  go_ret2
  exact ⟨by simp [wdo, mask16], rfl⟩

theorem ok3 (a b : Int) (ha : 0 ≤ a) (ha' : a ≤ 65535) (hb : 0 ≤ b) (hb' : b ≤ 65535) (w : World) :
    Calls Tryd.prog 18 #[.int .i64 3, .int .i64 a, .int .i64 b] w fun e w' => e = .returned (.tuple #[.int .i64 (wdo 3 a b), .int .i64 0]) ∧ w' = w := by
  have hq : 0 ≤ a * b := Int.mul_nonneg ha hb
  have hq' : a * b ≤ 65535 * 65535 := Int.mul_le_mul ha' hb' hb (by decide)
  go_enter Tryd.func18, Tryd.ntmps18
  go_wp2
  go_ret2
  exact ⟨by simp [wdo, mask16], rfl⟩

theorem ok4 (a b : Int) (ha : 0 ≤ a) (ha' : a ≤ 65535) (hb : 0 ≤ b) (hb' : b ≤ 65535) (w : World) :
    Calls Tryd.prog 18 #[.int .i64 4, .int .i64 a, .int .i64 b] w fun e w' => e = .returned (.tuple #[.int .i64 (wdo 4 a b), .int .i64 0]) ∧ w' = w := by
  have h4 := and_lt a.toNat b.toNat (by omega)
  go_enter Tryd.func18, Tryd.ntmps18
  go_wp2
  go_ret2
  exact ⟨by simp [wdo, mask16, and_words a b ha ha' hb hb']; omega, rfl⟩

theorem ok5 (a b : Int) (ha : 0 ≤ a) (ha' : a ≤ 65535) (hb : 0 ≤ b) (hb' : b ≤ 65535) (w : World) :
    Calls Tryd.prog 18 #[.int .i64 5, .int .i64 a, .int .i64 b] w fun e w' => e = .returned (.tuple #[.int .i64 (wdo 5 a b), .int .i64 0]) ∧ w' = w := by
  have h5 := or_lt a.toNat b.toNat (by omega) (by omega)
  go_enter Tryd.func18, Tryd.ntmps18
  go_wp2
  go_ret2
  exact ⟨by simp [wdo, mask16, or_words a b ha ha' hb hb']; omega, rfl⟩

theorem ok6 (a b : Int) (ha : 0 ≤ a) (ha' : a ≤ 65535) (hb : 0 ≤ b) (hb' : b ≤ 65535) (w : World) :
    Calls Tryd.prog 18 #[.int .i64 6, .int .i64 a, .int .i64 b] w fun e w' => e = .returned (.tuple #[.int .i64 (wdo 6 a b), .int .i64 0]) ∧ w' = w := by
  have h6 := xor_lt a.toNat b.toNat (by omega) (by omega)
  go_enter Tryd.func18, Tryd.ntmps18
  go_wp2
  go_ret2
  exact ⟨by simp [wdo, mask16, xor_words a b ha ha' hb hb']; omega, rfl⟩

theorem ok7 (a b : Int) (ha : 0 ≤ a) (ha' : a ≤ 65535) (hb : 0 ≤ b) (hb' : b ≤ 65535) (w : World) :
    Calls Tryd.prog 18 #[.int .i64 7, .int .i64 a, .int .i64 b] w fun e w' => e = .returned (.tuple #[.int .i64 (wdo 7 a b), .int .i64 0]) ∧ w' = w := by
  by_cases c : a < b
  · go_enter Tryd.func18, Tryd.ntmps18
    go_wp2
    go_ret2
    exact ⟨by simp [wdo, mask16, c], rfl⟩
  · go_enter Tryd.func18, Tryd.ntmps18
    go_wp2
    go_ret2
    exact ⟨by simp [wdo, mask16, c], rfl⟩

theorem ok8 (a b : Int) (ha : 0 ≤ a) (ha' : a ≤ 65535) (hb : 0 ≤ b) (hb' : b ≤ 65535) (w : World) :
    Calls Tryd.prog 18 #[.int .i64 8, .int .i64 a, .int .i64 b] w fun e w' => e = .returned (.tuple #[.int .i64 (wdo 8 a b), .int .i64 0]) ∧ w' = w := by
  by_cases c : a = b
  · go_enter Tryd.func18, Tryd.ntmps18
    go_wp2
    go_ret2
    exact ⟨by simp [wdo, mask16, c], rfl⟩
  · go_enter Tryd.func18, Tryd.ntmps18
    go_wp2
    go_ret2
    exact ⟨by simp [wdo, mask16, c], rfl⟩

theorem ok9 (a b : Int) (ha : 0 ≤ a) (ha' : a ≤ 65535) (hb : 0 ≤ b) (hb' : b ≤ 65535) (w : World) :
    Calls Tryd.prog 18 #[.int .i64 9, .int .i64 a, .int .i64 b] w fun e w' => e = .returned (.tuple #[.int .i64 (wdo 9 a b), .int .i64 0]) ∧ w' = w := by
  have hm := mask4 b
  go_enter Tryd.func18, Tryd.ntmps18
  go_wp2
  go_ret2
  exact ⟨by simp [wdo, mask16, wrap64_mod], rfl⟩

theorem ok10 (a b : Int) (ha : 0 ≤ a) (ha' : a ≤ 65535) (hb : 0 ≤ b) (hb' : b ≤ 65535) (w : World) :
    Calls Tryd.prog 18 #[.int .i64 10, .int .i64 a, .int .i64 b] w fun e w' => e = .returned (.tuple #[.int .i64 (wdo 10 a b), .int .i64 0]) ∧ w' = w := by
  have hm := mask4 b
  have hp : (0 : Int) < 2 ^ (b % 16).toNat := Int.pow_pos (by decide)
  have h10 : 0 ≤ a / 2 ^ (b % 16).toNat := Int.ediv_nonneg ha (by omega)
  have h10' : a / 2 ^ (b % 16).toNat ≤ a := Int.ediv_le_self _ ha
  go_enter Tryd.func18, Tryd.ntmps18
  go_wp2
  go_ret2
  exact ⟨by simp [wdo, mask16]; omega, rfl⟩

theorem kind (op a b : Int) (h : ¬ (1 ≤ op ∧ op ≤ 10)) (w : World) :
    Calls Tryd.prog 18 #[.int .i64 op, .int .i64 a, .int .i64 b] w fun e w' => e = .returned (.tuple #[.int .i64 0, .int .i64 3]) ∧ w' = w := by
  by_cases c : op < 1
  · go_enter Tryd.func18, Tryd.ntmps18
    go_wp2
    go_ret2
    exact ⟨rfl, rfl⟩
  · have c2 : 10 < op := by omega
    go_enter Tryd.func18, Tryd.ntmps18
    go_wp2
    go_ret2
    exact ⟨rfl, rfl⟩

theorem range (op a b : Int) (h1 : 1 ≤ op) (h2 : op ≤ 10) (h : ¬ ((0 ≤ a ∧ a ≤ 65535) ∧ (0 ≤ b ∧ b ≤ 65535))) (w : World) :
    Calls Tryd.prog 18 #[.int .i64 op, .int .i64 a, .int .i64 b] w fun e w' => e = .returned (.tuple #[.int .i64 0, .int .i64 2]) ∧ w' = w := by
  by_cases c0 : 0 ≤ a
  · by_cases c1 : a ≤ 65535
    · by_cases c2 : 0 ≤ b
      · have c3 : ¬ b ≤ 65535 := by omega
        go_enter Tryd.func18, Tryd.ntmps18
        go_wp2
        go_ret2
        exact ⟨rfl, rfl⟩
      · go_enter Tryd.func18, Tryd.ntmps18
        go_wp2
        go_ret2
        exact ⟨rfl, rfl⟩
    · go_enter Tryd.func18, Tryd.ntmps18
      go_wp2
      go_ret2
      exact ⟨rfl, rfl⟩
  · go_enter Tryd.func18, Tryd.ntmps18
    go_wp2
    go_ret2
    exact ⟨rfl, rfl⟩

/-- Every operation of every two words. -/
theorem ok (op a b : Int) (h1 : 1 ≤ op) (h2 : op ≤ 10) (ha : 0 ≤ a) (ha' : a ≤ 65535) (hb : 0 ≤ b) (hb' : b ≤ 65535) (w : World) :
    Calls Tryd.prog 18 #[.int .i64 op, .int .i64 a, .int .i64 b] w fun e w' => e = .returned (.tuple #[.int .i64 (wdo op a b), .int .i64 0]) ∧ w' = w := by
  have h : op = 1 ∨ op = 2 ∨ op = 3 ∨ op = 4 ∨ op = 5 ∨ op = 6 ∨ op = 7 ∨ op = 8 ∨ op = 9 ∨ op = 10 := by omega
  rcases h with rfl | rfl | rfl | rfl | rfl | rfl | rfl | rfl | rfl | rfl
  · exact ok1 a b ha ha' hb hb' w
  · exact ok2 a b ha ha' hb hb' w
  · exact ok3 a b ha ha' hb hb' w
  · exact ok4 a b ha ha' hb hb' w
  · exact ok5 a b ha ha' hb hb' w
  · exact ok6 a b ha ha' hb hb' w
  · exact ok7 a b ha ha' hb hb' w
  · exact ok8 a b ha ha' hb hb' w
  · exact ok9 a b ha ha' hb hb' w
  · exact ok10 a b ha ha' hb hb' w

end Go.Proofs.YtmmcpjmgindpkacDoor.Do
