/-
  WHAT mach.gate GIVES where it faults.
  Conditions: the run's parts lie there.
-/
import Derived.Test.YtmmcpjmgindpkacDoorEntry
import Derived.BigRegion
import Derived.Deep.RegionHeld3
namespace Go.Proofs.YtmmcpjmgindpkacDoor.Gate
open Go.RowKit Tab Go.Proofs.YtmmcpjmgindpkacDoor.Check Lists Img Mach Own Go.Proofs.YtmmcpjmgindpkacDoor.Inv Go.Proofs.YtmmcpjmgindpkacDoor.Frame Take Go.Proofs.YtmmcpjmgindpkacDoor.Went Go.Proofs.YtmmcpjmgindpkacDoor.Entry

set_option maxRecDepth 100000 in
set_option maxHeartbeats 600000 in
theorem gate_no (ao : Option Addr) (len cap : Nat) (hlen : len ≤ 5) (P : Nat → PartD) (hel : ∀ k, k < len → (P k).el ≤ 8) (R by_ : Nat) (op a b c : Int) (tv : Value) (w : World) (hR : w.cell? ⟨R, 0, none⟩ = some (.slice ao len cap)) (hin : ∀ w', Below w.heap.size w w' → Parts w' ao len P) (h : ¬ ((0 ≤ a ∧ a < len) ∧ (0 ≤ b ∧ b < (P a.toNat).el))) :
    Calls Tryd.prog 49 #[.pointer (some ⟨R, 0, none⟩), .int .i64 by_, .agg #[.int .i64 op, .int .i64 a, .int .i64 b, .int .i64 c], tv] w fun e w' => e = .returned (.int .i64 4) ∧ Below w.heap.size w w' := by
  have k33 : ∀ w', Below w.heap.size w w' → _ := fun w' hb => entryOf_no ao len cap hlen P hel a b w' (hin w' hb) h
  have hb0 := below1 w (.cells #[.int .i64 op, .int .i64 a, .int .i64 b, .int .i64 c] 27)
  have hlt := World.block_lt_of_cell? w _ hR
  have hne : w.heap.size ≠ R := by simp at hlt; omega
  have u : ∀ o, (w.alloc o).cell? ⟨R, 0, none⟩ = some (.slice ao len cap) := fun o => (World.cell?_alloc_past o _ _ hlt).trans hR
  have K33 : Hid _ := k33
  have HB0 : Hid _ := hb0
  clear k33 hb0 hin h hel
  go_enter Tryd.func49, Tryd.ntmps49
  go_wp2
  go_region_held3 (fun w' => w'.cell? ⟨w.heap.size, 1, none⟩ = some (.int .i64 a) ∧ w'.cell? ⟨w.heap.size, 2, none⟩ = some (.int .i64 b) ∧ w'.cell? ⟨R, 0, none⟩ = some (.slice ao len cap)) (go_keep)
    (first | (go_at_call 33; refine (K33.out _ (by first | (with_reducible exact HB0.out.drew) | (with_reducible exact (HB0.out.alloc (by simp) _).drew))).mono ?_; rintro e w' ⟨rfl, rfl⟩))
  all_goals
    go_wp2
    go_ret
    exact ⟨rfl, (((below1 w _).alloc (by simp) _).alloc (by simp; omega) _).drew⟩

set_option maxRecDepth 100000 in
set_option maxHeartbeats 600000 in
theorem gate_count (ao : Option Addr) (len cap : Nat) (hlen : len ≤ 5) (P : Nat → PartD) (R by_ k i n : Nat) (hk : k < len) (hi : i < (P k).el) (hel : (P k).el ≤ 8) (op c : Int) (ta : Option Addr) (tc : Nat) (w : World) (hR : w.cell? ⟨R, 0, none⟩ = some (.slice ao len cap)) (hin : ∀ w', Below w.heap.size w w' → Parts w' ao len P) (h : (P k).prs i ≠ n) :
    Calls Tryd.prog 49 #[.pointer (some ⟨R, 0, none⟩), .int .i64 by_, .agg #[.int .i64 op, .int .i64 k, .int .i64 i, .int .i64 c], .slice ta n tc] w fun e w' => e = .returned (.int .i64 4) ∧ Below w.heap.size w w' := by
  have k33 : ∀ w', Below w.heap.size w w' → _ := fun w' hb => entryOf_ok ao len cap hlen P k i hk hi hel w' (hin w' hb)
  have hb0 := below1 w (.cells #[.int .i64 op, .int .i64 k, .int .i64 i, .int .i64 c] 27)
  have hlt := World.block_lt_of_cell? w _ hR
  have hne : w.heap.size ≠ R := by simp at hlt; omega
  have u : ∀ o, (w.alloc o).cell? ⟨R, 0, none⟩ = some (.slice ao len cap) := fun o => (World.cell?_alloc_past o _ _ hlt).trans hR
  obtain ⟨at_, eat⟩ : ∃ x, x = (P k).ats i := ⟨_, rfl⟩
  obtain ⟨pr, epr⟩ : ∃ x, x = (P k).prs i := ⟨_, rfl⟩
  rw [← eat, ← epr] at k33
  have hpr : (pr == (n : Int)) = false := by rw [epr]; simpa using h
  rcases (show pr < n ∨ (n : Int) < pr by have := h; rw [← epr] at this; omega) with c0 | c0
  all_goals
    have K33 : Hid _ := k33
    have HB0 : Hid _ := hb0
    clear k33 hb0 hin h hel hk hi eat epr
    go_enter Tryd.func49, Tryd.ntmps49
    go_wp2
    go_region_held3 (fun w' => w'.cell? ⟨w.heap.size, 1, none⟩ = some (.int .i64 k) ∧ w'.cell? ⟨w.heap.size, 2, none⟩ = some (.int .i64 i) ∧ w'.cell? ⟨R, 0, none⟩ = some (.slice ao len cap)) (go_keep)
      (first | (go_at_call 33; refine (K33.out _ (by first | (with_reducible exact HB0.out.drew) | (with_reducible exact (HB0.out.alloc (by simp) _).drew))).mono ?_; rintro e w' ⟨rfl, rfl⟩))
    all_goals
      go_wp2
      go_ret
      exact ⟨rfl, (((below1 w _).alloc (by simp) _).alloc (by simp; omega) _).drew⟩
end Go.Proofs.YtmmcpjmgindpkacDoor.Gate
