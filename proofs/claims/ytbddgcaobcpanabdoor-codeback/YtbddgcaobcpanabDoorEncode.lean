/-
  WHAT code.Encode GIVES, for every list of instructions: the call returns, and lays new memory alone.
  Conditions: the table 'code.bounds' lies there.
-/
import Derived.Test.YtbddgcaobcpanabDoorLists
namespace Go.Proofs.YtbddgcaobcpanabDoor.Encode
open Go.RowKit Tab Go.Proofs.YtbddgcaobcpanabDoor.Check Lists

theorem great (ao : Option Addr) (len cap : Nat) (h : 1200 < len) (w : World) :
    Calls Tryd.prog 5 #[.slice ao len cap] w fun e w' => e = .returned (.tuple #[.slice none 0 0, .int .i64 1]) ∧ w' = w := by
  have h2 : (1200 : Int) < len := by omega
  go_enter Tryd.func5, Tryd.ntmps5
  go_wp2
  go_ret2
  exact ⟨rfl, rfl⟩

theorem encode (ao : Option Addr) (len cap : Nat) (hlen : len ≤ 1200) (o a b c : Nat → Int) (w : World) (hl : Lies w) (hin : Instrs w ao len o a b c) :
    Calls Tryd.prog 5 #[.slice ao len cap] w fun e w' => Below w.heap.size w w' ∧ ∃ v, e = .returned (.tuple #[v, .int .i64 (first (fun k => fault (o k) (a k) (b k) (c k)) len)]) ∧
      (first (fun k => fault (o k) (a k) (b k) (c k)) len = 0 → w'.ownsRow w.heap.size 3 1 v (4 * len) (words o a b c len)) ∧
      (first (fun k => fault (o k) (a k) (b k) (c k)) len ≠ 0 → v = .slice none 0 0) := by
  have h2 : (len : Int) ≤ 1200 := by omega
  obtain ⟨i0, hi, hz0, hz1, hz2⟩ := info_parts info3
  go_enter Tryd.func5, Tryd.ntmps5
  go_wp2_with (at_make; refine wpList_make_own _ rfl _ _ 28 rfl w.heap.size 3 i0 (.int .i64 0) 1 Tryd.underlying28 hi hz0 hz1 .i64 .i64 _ (4 * len) rfl rfl (by omega) (by rw [hz2]; omega) (by unfold maxLen; omega) (Nat.le_refl _) ?_; intro w1 hown1 hgrow1)
  go_loopw [4, 17] (fun v i wr => ∃ k : Nat, k ≤ len ∧ i = .int .i64 k ∧ first (fun k => fault (o k) (a k) (b k) (c k)) k = 0 ∧ wr.ownsRow w.heap.size 3 1 v (4 * k) (words o a b c k) ∧ Below w.heap.size w wr) (fun _ i _ => len - (intOf i).toNat)
  case atStart => exact ⟨0, Nat.zero_le _, rfl, rfl, hown1, (Below.refl _ _).grown hgrow1 (Nat.le_refl _) (by simp)⟩
  case round =>
    obtain ⟨k, hk, rfl, hf, hown, hbel⟩ := hrel
    have hl2 : Lies wr := Lies_below hl hbel
    by_cases hkl : k < len
    · obtain ⟨bl, off, rfl, t0, t1, t2, t3⟩ := hin k hkl
      have hbl := World.block_lt_of_cell? w _ t0
      have s0 := (hbel.cell (p := ⟨bl, off + k * 4, none⟩) hbl).trans t0
      have s1 := (hbel.cell (p := ⟨bl, off + k * 4 + 1, none⟩) hbl).trans t1
      have s2 := (hbel.cell (p := ⟨bl, off + k * 4 + 2, none⟩) hbl).trans t2
      have s3 := (hbel.cell (p := ⟨bl, off + k * 4 + 3, none⟩) hbl).trans t3
      have hw1 : words o a b c (k + 1) = words o a b c k ++ [.int .i64 (o k), .int .i64 (a k), .int .i64 (b k), .int .i64 (c k)] := rfl
      have k6 : ∀ w', Lies w' → _ := fun w' h => check (o k) (a k) (b k) (c k) w' h
      obtain ⟨x0, e0⟩ : ∃ x, x = o k := ⟨_, rfl⟩
      obtain ⟨x1, e1⟩ : ∃ x, x = a k := ⟨_, rfl⟩
      obtain ⟨x2, e2⟩ : ∃ x, x = b k := ⟨_, rfl⟩
      obtain ⟨x3, e3⟩ : ∃ x, x = c k := ⟨_, rfl⟩
      obtain ⟨r, er⟩ : ∃ r, r = fault (o k) (a k) (b k) (c k) := ⟨_, rfl⟩
      rw [← er, ← e0, ← e1, ← e2, ← e3] at k6
      rw [← e0] at s0
      rw [← e1] at s1
      rw [← e2] at s2
      rw [← e3] at s3
      rw [← e0, ← e1, ← e2, ← e3] at hw1
      have HW : Hid (words o a b c (k + 1) = words o a b c k ++ [.int .i64 x0, .int .i64 x1, .int .i64 x2, .int .i64 x3]) := hw1
      have HF : Hid (first (fun k => fault (o k) (a k) (b k) (c k)) k = 0) := hf
      have ER : Hid (r = fault (o k) (a k) (b k) (c k)) := er
      have hl3 := Lies_below hl2 (below1 wr (.cells #[.int .i64 x0, .int .i64 x1, .int .i64 x2, .int .i64 x3] 38))
      have hown2 := hown.alloc (.cells #[.int .i64 x0, .int .i64 x1, .int .i64 x2, .int .i64 x3] 38)
      have hbel2 := hbel.alloc hbel.size (.cells #[.int .i64 x0, .int .i64 x1, .int .i64 x2, .int .i64 x3] 38)
      have hsz := hbel2.size
      clear t0 t1 t2 t3 e0 e1 e2 e3 er hin hl hl2 hw1 hf hown hbel
      by_cases hr : r = 0
      · subst hr
        go_wp2_with (first
          | (go_at_call 10; refine (k6 _ hl3).mono ?_; rintro e w3 ⟨rfl, hb1⟩; obtain ⟨q0, q1, q2, q3⟩ := box4 hb1; have hown3 := owns_below hown2 hb1; have hbel3 := hbel2.trans (hb1.mono hsz); have hsz3 := hbel3.size; clear hb1 hown2 hbel2 hl3)
          | (at_builtin; refine wpList_append_own _ rfl _ _ 28 rfl w.heap.size 3 i0 (.int .i64 0) 1 8 Tryd.underlying28 hi hz0 hz1 hz2 rfl (by decide) _ _ _ rfl (hown3.alloc _) ⟨w3.heap.size, 0, none⟩ 4 4 [.int .i64 x0, .int .i64 x1, .int .i64 x2, .int .i64 x3] rfl rfl four_news four_one (by unfold maxLen; omega) (by omega) (by simp; omega) ?_; intro v' w4 hown4 hgrow4 _))
        go_roundw
        case rel => exact ⟨k + 1, by omega, by go_num, by rw [first_succ HF.out]; exact ER.out.symm, by rw [HW.out]; exact hown4, (hbel3.alloc hsz3 _).grown hgrow4 (by simp; omega) (fun g hg => (hown3.lt g hg).1)⟩
        case measure => simp [intOf]; omega
      · have hr2 : (r == 0) = false := by simpa using hr
        go_wp2_with (go_at_call 10; refine (k6 _ hl3).mono ?_; rintro e w3 ⟨rfl, hb1⟩; obtain ⟨q0, q1, q2, q3⟩ := box4 hb1; have hbel3 := hbel2.trans (hb1.mono hsz); clear hb1 hown2 hbel2 hl3)
        have e1 := first_stops hkl HF.out (by rw [← ER.out]; exact hr)
        go_ret2
        refine ⟨hbel3, .slice none 0 0, by rw [e1, ← ER.out]; rfl, fun h => absurd (e1.symm.trans h) (by rw [← ER.out]; exact hr), fun _ => rfl⟩
    · obtain rfl : k = len := by omega
      clear hl hl2 hin
      have HF : Hid (first (fun k => fault (o k) (a k) (b k) (c k)) k = 0) := hf
      clear hf
      go_wp2
      go_ret2
      refine ⟨hbel, u4, by rw [HF.out]; rfl, fun _ => hown, fun h => absurd HF.out h⟩
end Go.Proofs.YtbddgcaobcpanabDoor.Encode
