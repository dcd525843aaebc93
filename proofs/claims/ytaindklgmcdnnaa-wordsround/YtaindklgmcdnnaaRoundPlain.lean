/-
  THE PLAIN LAWS OF WORDS THAT 'barbicankeep.WordsRound' ASKS: no Go in sight.
  Conditions: two words, and a number below sixteen.
-/
import Derived.Test.YtaindklgmcdnnaaRound
namespace Go.Proofs.Ytaindklgmcdnnaa.Round
open Go.RowKit Plain

theorem cl_ok (op a b : Int) (h1 : 1 ≤ op) (h2 : op ≤ 10) (ha : 0 ≤ a) (ha' : a ≤ 65535) (hb : 0 ≤ b) (hb' : b ≤ 65535) : cl op a b = wdo op a b :=
  if_pos ⟨⟨h1, h2⟩, ⟨ha, ha'⟩, hb, hb'⟩

theorem cl_word (op a b : Int) (h1 : 1 ≤ op) (h2 : op ≤ 10) (ha : 0 ≤ a) (ha' : a ≤ 65535) (hb : 0 ≤ b) (hb' : b ≤ 65535) : 0 ≤ cl op a b ∧ cl op a b ≤ 65535 := by
  rw [cl_ok op a b h1 h2 ha ha' hb hb']
  exact wdo_word op a b ha ha' hb hb'

theorem cl1 (x y : Nat) (hx : x < 65536) (hy : y < 65536) : cl 1 x y = (((x + y) % 65536 : Nat) : Int) := by
  rw [cl_ok 1 x y (by decide) (by decide) (by omega) (by omega) (by omega) (by omega)]
  simp [wdo]
theorem cl2 (x y : Nat) (hx : x < 65536) (hy : y < 65536) : cl 2 x y = (((x + 65536 - y) % 65536 : Nat) : Int) := by
  rw [cl_ok 2 x y (by decide) (by decide) (by omega) (by omega) (by omega) (by omega)]
  simp [wdo]
  omega
theorem cl3 (x y : Nat) (hx : x < 65536) (hy : y < 65536) : cl 3 x y = (((x * y) % 65536 : Nat) : Int) := by
  rw [cl_ok 3 x y (by decide) (by decide) (by omega) (by omega) (by omega) (by omega)]
  simp [wdo]
theorem cl4 (x y : Nat) (hx : x < 65536) (hy : y < 65536) : cl 4 x y = ((x &&& y : Nat) : Int) := by
  rw [cl_ok 4 x y (by decide) (by decide) (by omega) (by omega) (by omega) (by omega)]
  simp [wdo]
theorem cl5 (x y : Nat) (hx : x < 65536) (hy : y < 65536) : cl 5 x y = ((x ||| y : Nat) : Int) := by
  rw [cl_ok 5 x y (by decide) (by decide) (by omega) (by omega) (by omega) (by omega)]
  simp [wdo]
theorem cl6 (x y : Nat) (hx : x < 65536) (hy : y < 65536) : cl 6 x y = ((x ^^^ y : Nat) : Int) := by
  rw [cl_ok 6 x y (by decide) (by decide) (by omega) (by omega) (by omega) (by omega)]
  simp [wdo]
theorem cl7 (x y : Nat) (hx : x < 65536) (hy : y < 65536) : cl 7 x y = if x < y then 1 else 0 := by
  rw [cl_ok 7 x y (by decide) (by decide) (by omega) (by omega) (by omega) (by omega)]
  simp [wdo]
theorem cl8 (x y : Nat) (hx : x < 65536) (hy : y < 65536) : cl 8 x y = if x = y then 1 else 0 := by
  rw [cl_ok 8 x y (by decide) (by decide) (by omega) (by omega) (by omega) (by omega)]
  simp only [wdo, Int.natCast_inj]
  rfl
theorem cl9 (x k : Nat) (hx : x < 65536) (hk : k < 16) : cl 9 x k = ((x * 2 ^ k % 65536 : Nat) : Int) := by
  rw [cl_ok 9 x k (by decide) (by decide) (by omega) (by omega) (by omega) (by omega)]
  have h : ((k : Int) % 16).toNat = k := by omega
  simp [wdo, h]
theorem cl10 (x k : Nat) (hx : x < 65536) (hk : k < 16) : cl 10 x k = ((x / 2 ^ k : Nat) : Int) := by
  rw [cl_ok 10 x k (by decide) (by decide) (by omega) (by omega) (by omega) (by omega)]
  have h : ((k : Int) % 16).toNat = k := by omega
  simp [wdo, h]

theorem and_add_or (x : Nat) : ∀ y : Nat, (x &&& y) + (x ||| y) = x + y := by
  induction x using Nat.strongRecOn with
  | ind x ih =>
    intro y
    by_cases h : x = 0
    · subst h; simp
    · have hi := ih (x / 2) (by omega) (y / 2)
      have a1 : (x &&& y) / 2 = x / 2 &&& y / 2 := Nat.and_div_two
      have o1 : (x ||| y) / 2 = x / 2 ||| y / 2 := Nat.or_div_two
      have a2 : (x &&& y) % 2 = x % 2 &&& y % 2 := Nat.and_mod_two_pow (n := 1)
      have o2 : (x ||| y) % 2 = x % 2 ||| y % 2 := Nat.or_mod_two_pow (n := 1)
      have hs : (x % 2 &&& y % 2) + (x % 2 ||| y % 2) = x % 2 + y % 2 := by
        rcases Nat.mod_two_eq_zero_or_one x with hx | hx <;> rcases Nat.mod_two_eq_zero_or_one y with hy | hy <;> rw [hx, hy] <;> rfl
      omega

theorem law1 (x y : Nat) (hx : x < 65536) (hy : y < 65536) : cl 2 (cl 1 x y) y = x := by
  rw [cl1 x y hx hy, cl2 _ y (by omega) hy]; omega

theorem law2 (x y : Nat) (hx : x < 65536) (hy : y < 65536) : cl 6 (cl 6 x y) y = x := by
  have h := xor_lt x y (by omega) (by omega)
  rw [cl6 x y hx hy, cl6 _ y h hy, Nat.xor_assoc, Nat.xor_self, Nat.xor_zero]

theorem law3 (x y : Nat) (hx : x < 65536) (hy : y < 65536) : cl 1 (cl 4 x y) (cl 5 x y) = cl 1 x y := by
  have h4 := and_lt x y (by omega)
  have h5 := or_lt x y (by omega) (by omega)
  rw [cl4 x y hx hy, cl5 x y hx hy, cl1 _ _ h4 h5, cl1 x y hx hy, and_add_or]

theorem law4 (x y : Nat) (hx : x < 65536) (hy : y < 65536) : cl 7 x y + cl 7 y x + cl 8 x y = 1 := by
  rw [cl7 x y hx hy, cl7 y x hy hx, cl8 x y hx hy]
  split <;> split <;> split <;> omega

theorem pow_small (k : Nat) (hk : k < 16) : 2 ^ k ≤ 32768 := Nat.pow_le_pow_right (n := 2) (by decide) (show k ≤ 15 by omega)

theorem law5 (x k : Nat) (hx : x < 65536) (hk : k < 16) : cl 9 x k = cl 3 x ((2 ^ k : Nat) : Int) := by
  have h := pow_small k hk
  rw [cl9 x k hx hk, cl3 x _ hx (by omega)]

theorem law6 (x k : Nat) (hx : x < 65536) (hk : k < 16) : cl 10 (cl 9 x k) k = cl 4 x ((65535 / 2 ^ k : Nat) : Int) := by
  have hp : 0 < 2 ^ k := Nat.two_pow_pos k
  have hd : 65535 / 2 ^ k ≤ 65535 := Nat.div_le_self _ _
  have hsplit : 2 ^ (16 - k) * 2 ^ k = 65536 := by
    rw [← Nat.pow_add, show 16 - k + k = 16 by omega]
  have hq : 65535 / 2 ^ k = 2 ^ (16 - k) - 1 := by
    have hr : 0 < 2 ^ (16 - k) := Nat.two_pow_pos _
    apply Nat.div_eq_of_lt_le
    · rw [Nat.sub_mul, hsplit]; omega
    · rw [Nat.sub_add_cancel hr, hsplit]; omega
  rw [cl9 x k hx hk, cl10 _ k (by omega) hk, cl4 x _ hx (by omega), hq, Nat.and_two_pow_sub_one_eq_mod]
  rw [← hsplit, Nat.mul_mod_mul_right, Nat.mul_div_cancel _ hp]

theorem law7 (x : Int) : cl 1 x 65536 = -1 := if_neg (fun h => absurd h.2.2.2 (by decide))

end Go.Proofs.Ytaindklgmcdnnaa.Round
