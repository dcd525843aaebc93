/-
  WHAT code.Decode GIVES, for every list of numbers: the call returns, and lays new memory alone.
  Conditions: the table 'code.bounds' lies there.
-/
import Derived.Test.YtbddgcaobcpanabDoorRead
import Derived.BigRegion
namespace Go.Proofs.YtbddgcaobcpanabDoor.Decode
open Go.RowKit Tab Go.Proofs.YtbddgcaobcpanabDoor.Check Lists Go.Proofs.YtbddgcaobcpanabDoor.Read

theorem undrew {w w' : World} (h : Below w.drew.heap.size w.drew w') : Below w.heap.size w w' := ⟨h.os, h.tape, h.output, h.size, h.block⟩

theorem great (ao : Option Addr) (len cap : Nat) (h : 4800 < len) (w : World) :
    Calls Tryd.prog 6 #[.slice ao len cap] w fun e w' => e = .returned (.tuple #[.slice none 0 0, .int .i64 1]) ∧ w' = w := by
  have h2 : (4800 : Int) < len := by omega
  go_enter Tryd.func6, Tryd.ntmps6
  go_wp2
  go_ret2
  exact ⟨rfl, rfl⟩

theorem form (ao : Option Addr) (len cap : Nat) (h : len ≤ 4800) (h4 : len % 4 ≠ 0) (w : World) :
    Calls Tryd.prog 6 #[.slice ao len cap] w fun e w' => e = .returned (.tuple #[.slice none 0 0, .int .i64 4]) ∧ w' = w := by
  have h2 : (len : Int) ≤ 4800 := by omega
  have h3 : ((len : Int) % 4 != 0) = true := by
    have : (len : Int) % 4 ≠ 0 := by omega
    simpa using this
  clear h4
  go_enter Tryd.func6, Tryd.ntmps6
  go_wp2
  go_ret2
  exact ⟨rfl, rfl⟩

set_option maxHeartbeats 1000000 in
theorem decode (ao : Option Addr) (n cap : Nat) (hn : n ≤ 1200) (z : Nat → Int) (w : World) (hl : Lies w) (hin : Ints w ao (4 * n) z) (f : Nat → Int) (hf : ∀ k, f k = faultRead (z (4 * k)) (z (4 * k + 1)) (z (4 * k + 2)) (z (4 * k + 3))) :
    Calls Tryd.prog 6 #[.slice ao (4 * n) cap] w fun e w' => Below w.heap.size w w' ∧ ∃ v, e = .returned (.tuple #[v, .int .i64 (first f n)]) ∧
      (first f n = 0 → w'.ownsRow w.heap.size 38 4 v n (words (fun k => z (4 * k)) (fun k => z (4 * k + 1)) (fun k => z (4 * k + 2)) (fun k => z (4 * k + 3)) n)) ∧
      (first f n ≠ 0 → v = .slice none 0 0) := by
  obtain ⟨len, hlen⟩ : ∃ len, len = 4 * n := ⟨_, rfl⟩
  rw [← hlen] at hin
  rw [← hlen]
  have h2 : (len : Int) ≤ 4800 := by omega
  have h3 : (len : Int).tmod 4 = 0 := by rw [Int.tmod_eq_emod_of_nonneg (by omega)]; omega
  have h4 : (len : Int).tdiv 4 = n := by rw [Int.tdiv_eq_ediv_of_nonneg (by omega)]; omega
  obtain ⟨i0, hi, hz0, hz1, hz2⟩ := info_parts info38
  have HL : Hid (len = 4 * n) := hlen
  have HFF : Hid (∀ k, f k = faultRead (z (4 * k)) (z (4 * k + 1)) (z (4 * k + 2)) (z (4 * k + 3))) := hf
  clear hlen hf
  go_enter Tryd.func6, Tryd.ntmps6
  go_wp2_with (at_make; refine wpList_make_own _ rfl _ _ 23 rfl w.heap.size 38 i0 (.agg #[.int .i64 0, .int .i64 0, .int .i64 0, .int .i64 0]) 4 Tryd.underlying23 hi hz0 hz1 .i64 .i64 _ n rfl rfl (by omega) (by rw [hz2]; omega) (by unfold maxLen; omega) (Nat.le_refl _) ?_; intro w1 hown1 hgrow1)
  go_loopw [4, 5] (fun v i wr => ∃ k m : Nat, k ≤ n ∧ m = 4 * k ∧ i = .int .i64 m ∧ first f k = 0 ∧ wr.ownsRow w.heap.size 38 4 v k (words (fun k => z (4 * k)) (fun k => z (4 * k + 1)) (fun k => z (4 * k + 2)) (fun k => z (4 * k + 3)) k) ∧ Below w.heap.size w wr) (fun _ i _ => len - (intOf i).toNat)
  case atStart => exact ⟨0, 0, Nat.zero_le _, rfl, rfl, rfl, hown1, (Below.refl _ _).grown hgrow1 (Nat.le_refl _) (by simp)⟩
  case round =>
    obtain ⟨k, m, hk, hm, rfl, hf0, hown, hbel⟩ := hrel
    have HM : Hid (m = 4 * k) := hm
    have hl2 : Lies wr := Lies_below hl hbel
    by_cases hkl : k < n
    · have HLm : Hid (m + 3 < len) := show m + 3 < len by rw [hm, HL.out]; omega
      obtain ⟨bl, off, rfl, t⟩ := hin m (by have := HLm.out; omega)
      have hbl : bl < w.heap.size := World.block_lt_of_cell? w _ (t m (by have := HLm.out; omega))
      have s0 := (hbel.cell (p := ⟨bl, off + m, none⟩) hbl).trans (t m (by have := HLm.out; omega))
      have s1 := (hbel.cell (p := ⟨bl, off + (m + 1), none⟩) hbl).trans (t (m + 1) (by have := HLm.out; omega))
      have s2 := (hbel.cell (p := ⟨bl, off + (m + 2), none⟩) hbl).trans (t (m + 2) (by have := HLm.out; omega))
      have s3 := (hbel.cell (p := ⟨bl, off + (m + 3), none⟩) hbl).trans (t (m + 3) (by have := HLm.out; omega))
      have b1 : (m : Int) + 3 < len := by have := HLm.out; omega
      have hne : bl ≠ wr.heap.size := by have := hbel.size; omega
      obtain ⟨x0, e0⟩ : ∃ x, x = z m := ⟨_, rfl⟩
      obtain ⟨x1, e1⟩ : ∃ x, x = z (m + 1) := ⟨_, rfl⟩
      obtain ⟨x2, e2⟩ : ∃ x, x = z (m + 2) := ⟨_, rfl⟩
      obtain ⟨x3, e3⟩ : ∃ x, x = z (m + 3) := ⟨_, rfl⟩
      rw [← e0] at s0
      rw [← e1] at s1
      rw [← e2] at s2
      rw [← e3] at s3
      have v0 : ∀ o, (wr.alloc o).cell? ⟨bl, off + m, none⟩ = some (.int .i64 x0) := fun o => (World.cell?_alloc_old wr o _ hne).trans s0
      have v1 : ∀ o, (wr.alloc o).cell? ⟨bl, off + (m + 1), none⟩ = some (.int .i64 x1) := fun o => (World.cell?_alloc_old wr o _ hne).trans s1
      have v2 : ∀ o, (wr.alloc o).cell? ⟨bl, off + (m + 2), none⟩ = some (.int .i64 x2) := fun o => (World.cell?_alloc_old wr o _ hne).trans s2
      have v3 : ∀ o, (wr.alloc o).cell? ⟨bl, off + (m + 3), none⟩ = some (.int .i64 x3) := fun o => (World.cell?_alloc_old wr o _ hne).trans s3
      have k16 := fun w' h => checkRead x0 x1 x2 x3 w' h
      obtain ⟨r, er⟩ : ∃ r, r = faultRead x0 x1 x2 x3 := ⟨_, rfl⟩
      rw [← er] at k16
      have HW : Hid (words (fun k => z (4 * k)) (fun k => z (4 * k + 1)) (fun k => z (4 * k + 2)) (fun k => z (4 * k + 3)) (k + 1) = words (fun k => z (4 * k)) (fun k => z (4 * k + 1)) (fun k => z (4 * k + 2)) (fun k => z (4 * k + 3)) k ++ [.int .i64 x0, .int .i64 x1, .int .i64 x2, .int .i64 x3]) := by
        rw [e0, e1, e2, e3, HM.out]; rfl
      have ER : Hid (r = f k) := show r = f k by rw [HFF.out k, er, e0, e1, e2, e3, HM.out]
      have HF : Hid (first f k = 0) := hf0
      have hl3 : Lies (wr.alloc (.cells #[.int .i64 x0, .int .i64 x1, .int .i64 x2, .int .i64 x3] 38)).drew := Lies_below hl2 (below1 wr (.cells #[.int .i64 x0, .int .i64 x1, .int .i64 x2, .int .i64 x3] 38)).drew
      have hown2 := (hown.alloc (.cells #[.int .i64 x0, .int .i64 x1, .int .i64 x2, .int .i64 x3] 38)).drew
      have hbel2 := (hbel.alloc hbel.size (.cells #[.int .i64 x0, .int .i64 x1, .int .i64 x2, .int .i64 x3] 38)).drew
      have hsz := hbel2.size
      clear e0 e1 e2 e3 er hin hl hl2 hf0 hown hbel t hm
      go_wp2
      go_region
      clear s0 s1 s2 s3 v0 v1 v2 v3
      by_cases hr : r = 0
      · subst hr
        go_wp2_with (first
          | (go_at_call 11; refine (k16 _ hl3).mono ?_; rintro e w3 ⟨rfl, hb1⟩; obtain ⟨q0, q1, q2, q3⟩ := box4 (undrew hb1); have hown3 := owns_below hown2 hb1; have hbel3 := hbel2.trans (hb1.mono hsz); have hsz3 := hbel3.size; clear hb1 hown2 hbel2 hl3)
          | (at_builtin; refine wpList_append_own _ rfl _ _ 23 rfl w.heap.size 38 i0 (.agg #[.int .i64 0, .int .i64 0, .int .i64 0, .int .i64 0]) 4 32 Tryd.underlying23 hi hz0 hz1 hz2 rfl (by decide) _ _ _ rfl (hown3.alloc _) ⟨w3.heap.size, 0, none⟩ 1 1 [.int .i64 x0, .int .i64 x1, .int .i64 x2, .int .i64 x3] rfl rfl four_news four_one (by unfold maxLen; omega) (by omega) (by simp; omega) ?_; intro v' w4 hown4 hgrow4 _))
        go_roundw
        case rel => exact ⟨k + 1, m + 4, by omega, by rw [HM.out]; omega, by go_num, by rw [first_succ HF.out]; exact ER.out.symm, by rw [HW.out]; exact hown4, (hbel3.alloc hsz3 _).grown hgrow4 (by simp; omega) (fun g hg => (hown3.lt g hg).1)⟩
        case measure => simp [intOf]; omega
      · have hr2 : (r == 0) = false := by simpa using hr
        go_wp2_with (go_at_call 11; refine (k16 _ hl3).mono ?_; rintro e w3 ⟨rfl, hb1⟩; have hbel3 := hbel2.trans (hb1.mono hsz); clear hb1 hown2 hbel2 hl3)
        have e1 := first_stops hkl HF.out (by rw [← ER.out]; exact hr)
        go_ret2
        refine ⟨hbel3, .slice none 0 0, by rw [e1, ← ER.out]; rfl, fun h => absurd (e1.symm.trans h) (by rw [← ER.out]; exact hr), fun _ => rfl⟩
    · obtain rfl : k = n := by omega
      have hme : m = len := by rw [hm, HL.out]
      have HF : Hid (first f k = 0) := hf0
      clear hl hl2 hin hf0 hm
      subst hme
      go_wp2
      go_ret2
      refine ⟨hbel, u4, by rw [HF.out]; rfl, fun _ => hown, fun h => absurd HF.out h⟩
end Go.Proofs.YtbddgcaobcpanabDoor.Decode
