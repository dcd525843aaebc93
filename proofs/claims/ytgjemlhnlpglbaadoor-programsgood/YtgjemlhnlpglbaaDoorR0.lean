/-
  WHERE A NAME STANDS: lists of names that a closure tells, place by place (names.list: place).
  Conditions: each theorem's own hypotheses.
-/
import Derived.Test.YtgjemlhnlpglbaaDoorChecked
import Derived.WalkKit
import Derived.ProofKit
import Derived.OwnWalk
namespace Go.Proofs.YtgjemlhnlpglbaaDoor.NPlace
open Go.RowKit

/-- the first place from i on, of the next k, where that name stands; -1: there is none -/
def placeFrom (z : Nat → ByteArray) (s : ByteArray) : Nat → Nat → Int
  | _, 0 => -1
  | i, k + 1 => if ((z i).toList == s.toList) = true then (i : Int) else placeFrom z s (i + 1) k

/-- a closure tells names, whatever new memory was laid since -/
structure Tells (B : World) (k : Nat) (caps : Array Value) (n : Nat) (z : Nat → ByteArray) : Prop where
  enter : ∀ args w, (callFunc k args).run Tryd.prog w = .ok (.enter k args) w
  calls : ∀ W, Below B.heap.size B W → ∀ i : Nat, i < n → Calls Tryd.prog k (#[.int .i64 i] ++ caps) W fun e w' => e = .returned (.string (z i)) ∧ Below W.heap.size W w'

theorem Tells.below {B W : World} {k n : Nat} {caps : Array Value} {z : Nat → ByteArray} (h : Tells B k caps n z) (hb : Below B.heap.size B W) : Tells W k caps n z :=
  ⟨h.enter, fun W' hb' i hi => h.calls W' (hb.trans (hb'.mono hb.size)) i hi⟩

set_option maxHeartbeats 1000000 in
theorem place (w : World) (k n : Nat) (caps : Array Value) (z : Nat → ByteArray) (s : ByteArray) (hn : n ≤ maxLen) (ht : Tells w k caps n z) :
    Calls Tryd.prog 38 #[.agg #[.int .i64 n, .func (.func k) #[] caps], .string s] w fun e w' => e = .returned (.int .i64 (placeFrom z s 0 n)) ∧ Below w.heap.size w w' := by
  have hb0 : Below w.heap.size w (w.alloc (.cells #[.int .i64 n, .func (.func k) #[] caps] 68)) := (Below.refl _ _).alloc (Nat.le_refl _) _
  have HT : Hid (Tells w k caps n z) := ht
  have eg := ht.enter
  unfold maxLen at hn
  have hnI : (n : Int) ≤ 9223372036854775807 := by omega
  clear ht hn
  go_enter Tryd.func38, Tryd.ntmps38
  go_wp2
  go_loopw [8] (fun i wr => ∃ j : Nat, j ≤ n ∧ i = .int .i64 j ∧ placeFrom z s j (n - j) = placeFrom z s 0 n ∧ Below (w.alloc (.cells #[.int .i64 n, .func (.func k) #[] caps] 68)).heap.size (w.alloc (.cells #[.int .i64 n, .func (.func k) #[] caps] 68)) wr) (fun i _ => n - (intOf i).toNat)
  case atStart => exact ⟨0, Nat.zero_le _, rfl, rfl, Below.refl _ _⟩
  case round =>
    obtain ⟨j, hj, rfl, hp, hbel⟩ := hrel
    have HB : Hid _ := hbel
    have HB0 : Hid _ := hb0
    by_cases hjn : j < n
    · have q1 : wr.cell? ⟨w.heap.size, 1, none⟩ = some (.func (.func k) #[] caps) := (hbel.cell (p := ⟨w.heap.size, 1, none⟩) (by simp)).trans (by simp)
      have hjI : (j : Int) < n := by omega
      rw [show n - j = (n - (j + 1)) + 1 by omega, placeFrom] at hp
      have kk := HT.out.calls wr (hb0.trans (hbel.mono hb0.size)) j hjn
      clear hbel hb0 HT
      generalize z j = y at hp kk
      rcases Bool.eq_false_or_eq_true (y.toList == s.toList) with hy | hy
      · rw [if_pos hy] at hp
        have HP : Hid _ := hp
        clear hp
        go_wp2_with ((with_reducible show Calls _ k _ _ _); refine kk.mono ?_; rintro e w1 ⟨rfl, hb1⟩; have HB1 : Hid _ := hb1; clear hb1)
        go_ret
        exact ⟨by rw [← HP.out]; rfl, HB0.out.trans ((HB.out.trans (HB1.out.mono HB.out.size)).mono HB0.out.size)⟩
      · rw [if_neg (by rw [hy]; decide)] at hp
        have HP : Hid _ := hp
        clear hp
        go_wp2_with ((with_reducible show Calls _ k _ _ _); refine kk.mono ?_; rintro e w1 ⟨rfl, hb1⟩; have HB1 : Hid _ := hb1; clear hb1)
        go_roundw
        case rel => exact ⟨j + 1, by omega, by go_num, HP.out, HB.out.trans (HB1.out.mono HB.out.size)⟩
        case measure => simp [intOf]; omega
    · obtain rfl : j = n := by omega
      rw [Nat.sub_self, placeFrom] at hp
      have HP : Hid _ := hp
      clear hp hbel hb0 HT
      go_wp2
      go_ret
      exact ⟨by rw [← HP.out]; rfl, HB0.out.trans (HB.out.mono HB0.out.size)⟩
end Go.Proofs.YtgjemlhnlpglbaaDoor.NPlace
