/-
  WHAT mach.gate GIVES where it faults.
  Conditions: the run's parts lie there.
  PLAIN LAWS OF WORDS: no Go in sight: what an operation of two words gives, and how the model's sixty-four-bit operations on small numbers come to it.
  Conditions: each lemma's own hypotheses.
-/
import Derived.Test.YtmbbkabecipkaacDoorWhole4
import Derived.BigRegion
import Derived.Deep.RegionHeld3
import Derived.WalkKit
import Derived.Laws.BitsLemmas
namespace Go.Proofs.YtmbbkabecipkaacDoor.Gate
open Go.RowKit Tab Go.Proofs.YtmbbkabecipkaacDoor.Check Lists Img Mach Own Go.Proofs.YtmbbkabecipkaacDoor.Inv Go.Proofs.YtmbbkabecipkaacDoor.Frame Take Go.Proofs.YtmbbkabecipkaacDoor.Went Go.Proofs.YtmbbkabecipkaacDoor.Entry

set_option maxRecDepth 100000 in
set_option maxHeartbeats 600000 in
theorem gate_no (ao : Option Addr) (len cap : Nat) (hlen : len ≤ 5) (P : Nat → PartD) (hel : ∀ k, k < len → (P k).el ≤ 8) (R by_ : Nat) (op a b c : Int) (tv : Value) (w : World) (hR : w.cell? ⟨R, 0, none⟩ = some (.slice ao len cap)) (hin : ∀ w', Below w.heap.size w w' → Parts w' ao len P) (h : ¬ ((0 ≤ a ∧ a < len) ∧ (0 ≤ b ∧ b < (P a.toNat).el))) :
    Calls Tryd.prog 49 #[.pointer (some ⟨R, 0, none⟩), .int .i64 by_, .agg #[.int .i64 op, .int .i64 a, .int .i64 b, .int .i64 c], tv] w fun e w' => e = .returned (.int .i64 4) ∧ Below w.heap.size w w' := by
  have k33 : ∀ w', Below w.heap.size w w' → _ := fun w' hb => entryOf_no ao len cap hlen P hel a b w' (hin w' hb) h
  have hb0 := below1 w (.cells #[.int .i64 op, .int .i64 a, .int .i64 b, .int .i64 c] 27)
  have hlt := World.block_lt_of_cell? w _ hR
  have hne : w.heap.size ≠ R := by simp at hlt; omega
  have u : ∀ o, (w.alloc o).cell? ⟨R, 0, none⟩ = some (.slice ao len cap) := fun o => (World.cell?_alloc_past o _ _ hlt).trans hR
  have K33 : Hid _ := k33
  have HB0 : Hid _ := hb0
  clear k33 hb0 hin h hel
  go_enter Tryd.func49, Tryd.ntmps49
  go_wp2
  go_region_held3 (fun w' => w'.cell? ⟨w.heap.size, 1, none⟩ = some (.int .i64 a) ∧ w'.cell? ⟨w.heap.size, 2, none⟩ = some (.int .i64 b) ∧ w'.cell? ⟨R, 0, none⟩ = some (.slice ao len cap)) (go_keep)
    (first | (go_at_call 33; refine (K33.out _ (by first | (with_reducible exact HB0.out.drew) | (with_reducible exact (HB0.out.alloc (by simp) _).drew))).mono ?_; rintro e w' ⟨rfl, rfl⟩))
  all_goals
    go_wp2
    go_ret
    exact ⟨rfl, (((below1 w _).alloc (by simp) _).alloc (by simp; omega) _).drew⟩

set_option maxRecDepth 100000 in
set_option maxHeartbeats 600000 in
theorem gate_count (ao : Option Addr) (len cap : Nat) (hlen : len ≤ 5) (P : Nat → PartD) (R by_ k i n : Nat) (hk : k < len) (hi : i < (P k).el) (hel : (P k).el ≤ 8) (op c : Int) (ta : Option Addr) (tc : Nat) (w : World) (hR : w.cell? ⟨R, 0, none⟩ = some (.slice ao len cap)) (hin : ∀ w', Below w.heap.size w w' → Parts w' ao len P) (h : (P k).prs i ≠ n) :
    Calls Tryd.prog 49 #[.pointer (some ⟨R, 0, none⟩), .int .i64 by_, .agg #[.int .i64 op, .int .i64 k, .int .i64 i, .int .i64 c], .slice ta n tc] w fun e w' => e = .returned (.int .i64 4) ∧ Below w.heap.size w w' := by
  have k33 : ∀ w', Below w.heap.size w w' → _ := fun w' hb => entryOf_ok ao len cap hlen P k i hk hi hel w' (hin w' hb)
  have hb0 := below1 w (.cells #[.int .i64 op, .int .i64 k, .int .i64 i, .int .i64 c] 27)
  have hlt := World.block_lt_of_cell? w _ hR
  have hne : w.heap.size ≠ R := by simp at hlt; omega
  have u : ∀ o, (w.alloc o).cell? ⟨R, 0, none⟩ = some (.slice ao len cap) := fun o => (World.cell?_alloc_past o _ _ hlt).trans hR
  obtain ⟨at_, eat⟩ : ∃ x, x = (P k).ats i := ⟨_, rfl⟩
  obtain ⟨pr, epr⟩ : ∃ x, x = (P k).prs i := ⟨_, rfl⟩
  rw [← eat, ← epr] at k33
  have hpr : (pr == (n : Int)) = false := by rw [epr]; simpa using h
  rcases (show pr < n ∨ (n : Int) < pr by have := h; rw [← epr] at this; omega) with c0 | c0
  all_goals
    have K33 : Hid _ := k33
    have HB0 : Hid _ := hb0
    clear k33 hb0 hin h hel hk hi eat epr
    go_enter Tryd.func49, Tryd.ntmps49
    go_wp2
    go_region_held3 (fun w' => w'.cell? ⟨w.heap.size, 1, none⟩ = some (.int .i64 k) ∧ w'.cell? ⟨w.heap.size, 2, none⟩ = some (.int .i64 i) ∧ w'.cell? ⟨R, 0, none⟩ = some (.slice ao len cap)) (go_keep)
      (first | (go_at_call 33; refine (K33.out _ (by first | (with_reducible exact HB0.out.drew) | (with_reducible exact (HB0.out.alloc (by simp) _).drew))).mono ?_; rintro e w' ⟨rfl, rfl⟩))
    all_goals
      go_wp2
      go_ret
      exact ⟨rfl, (((below1 w _).alloc (by simp) _).alloc (by simp; omega) _).drew⟩
end Go.Proofs.YtmbbkabecipkaacDoor.Gate

namespace Go.Proofs.YtmbbkabecipkaacDoor.Plain
open Go Go.RowKit

/-- The operation 'op' of two words. -/
def wdo (op a b : Int) : Int :=
  if op = 1 then (a + b) % 65536
  else if op = 2 then (a - b) % 65536
  else if op = 3 then (a * b) % 65536
  else if op = 4 then ((a.toNat &&& b.toNat : Nat) : Int)
  else if op = 5 then ((a.toNat ||| b.toNat : Nat) : Int)
  else if op = 6 then ((a.toNat ^^^ b.toNat : Nat) : Int)
  else if op = 7 then (if a < b then 1 else 0)
  else if op = 8 then (if a = b then 1 else 0)
  else if op = 9 then (a * 2 ^ (b % 16).toNat) % 65536
  else a / 2 ^ (b % 16).toNat

theorem wraps_i64 (n : Int) (h0 : 0 ≤ n) (h1 : n < 2 ^ 63) : IntKind.i64.wrap n = n := by
  rw [IntKind.wrap_i64]; omega

theorem mask16 (n : Int) : bits .and .i64 n 65535 = n % 65536 := by
  have e : (65535 : Int) = ((65535 : Nat) : Int) := rfl
  rw [e]
  simp only [bits, BitVec.ofInt_natCast, BitVec.toNat_and, BitVec.toNat_ofNat, BitVec.toNat_ofInt]
  rw [show IntKind.i64.bits = 64 from rfl, show (65535 : Nat) % 2 ^ 64 = 2 ^ 16 - 1 from rfl, Nat.and_two_pow_sub_one_eq_mod]
  rw [wraps_i64 _ (Int.natCast_nonneg _) (by omega)]
  omega

theorem mask4 (n : Int) : bits .and .i64 n 15 = n % 16 := by
  have e : (15 : Int) = ((15 : Nat) : Int) := rfl
  rw [e]
  simp only [bits, BitVec.ofInt_natCast, BitVec.toNat_and, BitVec.toNat_ofNat, BitVec.toNat_ofInt]
  rw [show IntKind.i64.bits = 64 from rfl, show (15 : Nat) % 2 ^ 64 = 2 ^ 4 - 1 from rfl, Nat.and_two_pow_sub_one_eq_mod]
  rw [wraps_i64 _ (Int.natCast_nonneg _) (by omega)]
  omega

theorem and_words (a b : Int) (ha : 0 ≤ a) (ha' : a ≤ 65535) (hb : 0 ≤ b) (hb' : b ≤ 65535) : bits .and .i64 a b = ((a.toNat &&& b.toNat : Nat) : Int) := by
  have h := (bits_nat .i64 63 (by decide) (fun n h0 h1 => wraps_i64 n h0 h1) a.toNat b.toNat (by omega) (by omega)).1
  rwa [Int.toNat_of_nonneg ha, Int.toNat_of_nonneg hb] at h

theorem or_words (a b : Int) (ha : 0 ≤ a) (ha' : a ≤ 65535) (hb : 0 ≤ b) (hb' : b ≤ 65535) : bits .or .i64 a b = ((a.toNat ||| b.toNat : Nat) : Int) := by
  have h := (bits_nat .i64 63 (by decide) (fun n h0 h1 => wraps_i64 n h0 h1) a.toNat b.toNat (by omega) (by omega)).2
  rwa [Int.toNat_of_nonneg ha, Int.toNat_of_nonneg hb] at h

theorem xor_words (a b : Int) (ha : 0 ≤ a) (ha' : a ≤ 65535) (hb : 0 ≤ b) (hb' : b ≤ 65535) : bits .xor .i64 a b = ((a.toNat ^^^ b.toNat : Nat) : Int) := by
  obtain ⟨x, rfl⟩ := Int.eq_ofNat_of_zero_le ha
  obtain ⟨y, rfl⟩ := Int.eq_ofNat_of_zero_le hb
  have hx : x < 2 ^ 16 := by omega
  have hy : y < 2 ^ 16 := by omega
  have hz : x ^^^ y < 2 ^ 16 := Nat.xor_lt_two_pow hx hy
  simp only [bits, BitVec.ofInt_natCast, BitVec.toNat_xor, BitVec.toNat_ofNat, Int.toNat_natCast]
  rw [show IntKind.i64.bits = 64 from rfl, Nat.mod_eq_of_lt (by omega), Nat.mod_eq_of_lt (by omega)]
  exact wraps_i64 _ (Int.natCast_nonneg _) (by omega)

theorem and_lt (x y : Nat) (hy : y ≤ 65535) : (x &&& y) < 65536 := Nat.and_lt_two_pow (n := 16) x (by omega)
theorem or_lt (x y : Nat) (hx : x ≤ 65535) (hy : y ≤ 65535) : (x ||| y) < 65536 := Nat.or_lt_two_pow (n := 16) (by omega) (by omega)
theorem xor_lt (x y : Nat) (hx : x ≤ 65535) (hy : y ≤ 65535) : (x ^^^ y) < 65536 := Nat.xor_lt_two_pow (n := 16) (by omega) (by omega)

/-- What the operations give is a word. -/
theorem wdo_word (op a b : Int) (ha : 0 ≤ a) (ha' : a ≤ 65535) (hb : 0 ≤ b) (hb' : b ≤ 65535) : 0 ≤ wdo op a b ∧ wdo op a b ≤ 65535 := by
  have h4 := and_lt a.toNat b.toNat (by omega)
  have h5 := or_lt a.toNat b.toNat (by omega) (by omega)
  have h6 := xor_lt a.toNat b.toNat (by omega) (by omega)
  have hp : (0 : Int) < 2 ^ (b % 16).toNat := Int.pow_pos (by decide)
  have h10 : 0 ≤ a / 2 ^ (b % 16).toNat := Int.ediv_nonneg ha (by omega)
  have h10' : a / 2 ^ (b % 16).toNat ≤ a := Int.ediv_le_self _ ha
  unfold wdo
  repeat' split
  all_goals omega

theorem wrap64_mod (n : Int) : wrap64 n % 65536 = n % 65536 := by unfold wrap64; omega

/-- A bit of a number. -/
theorem bit_of (x k : Nat) : x / 2 ^ k % 2 = (x.testBit k).toNat := by
  rw [Nat.testBit_eq_decide_div_mod_eq]
  have h := Nat.mod_two_eq_zero_or_one (x / 2 ^ k)
  rcases h with h | h <;> simp [h]

theorem low_step (z k : Nat) : z % 2 ^ (k + 1) = z % 2 ^ k + 2 ^ k * (z.testBit k).toNat := by
  rw [Nat.mod_pow_succ, bit_of]

end Go.Proofs.YtmbbkabecipkaacDoor.Plain
