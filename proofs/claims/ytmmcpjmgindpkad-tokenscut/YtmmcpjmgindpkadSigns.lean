/-
  SIGNS: what token.signs hands on, one by one, and what token.longestSign gives: the longest sign that a text begins with.
  Conditions: none.
-/
import Derived.RangeFuncNested
import Derived.RangeFuncBound
import Derived.RangeFuncCalls
import Derived.RangeFuncLeaves
import Derived.RangeFuncFrom
import Derived.Shelf.Abstract
import Derived.Shelf.RegionOpen
import Derived.WalkKit
import Derived.OwnWalkIn
import Derived.TacticsInMore
import Derived.LoopNIn
import Derived.LoopIn
import Derived.Test.YtmmcpjmgindpkadShelf
import Derived.Test.YtmmcpjmgindpkadNumbers
namespace Go.Proofs.Ytmmcpjmgindpkad.Signs
open Go.RowKit Go.Shelf Bytes

attribute [local go_sem] Oper.semAt_some

/-- P5.1: the signs -/
def signs : List (List UInt8) := [[60, 60], [62, 62], [61, 61], [123], [125], [40], [41], [91], [93], [44], [59], [46], [61], [43], [45], [42], [38], [124], [94], [60]]

def signAt (k : Nat) : ByteArray := ⟨(signs.getD k []).toArray⟩

/-- what has come when k rounds are over -/
def upto (k : Nat) : List ByteArray := (List.range k).map signAt

theorem upto_succ (k : Nat) : upto (k + 1) = upto k ++ [signAt k] := by simp [upto, List.range_succ]

theorem upto_length (k : Nat) : (upto k).length = k := by simp [upto]

theorem upto_more (k m : Nat) : upto k <+: upto (k + m) := by
  induction m with
  | zero => exact List.prefix_refl _
  | succ m ih => rw [← Nat.add_assoc, upto_succ]; exact ih.trans (List.prefix_append _ _)

theorem upto_prefix {k : Nat} (h : k ≤ 20) : upto k <+: upto 20 := by
  have e := upto_more k (20 - k)
  rwa [show k + (20 - k) = 20 by omega] at e

theorem index_sign (k : Nat) (hk : k < 20) (w : World) : (Instr.index 62 (.agg #[.string ⟨#[60, 60]⟩, .string ⟨#[62, 62]⟩, .string ⟨#[61, 61]⟩, .string ⟨#[123]⟩, .string ⟨#[125]⟩, .string ⟨#[40]⟩, .string ⟨#[41]⟩, .string ⟨#[91]⟩, .string ⟨#[93]⟩, .string ⟨#[44]⟩, .string ⟨#[59]⟩, .string ⟨#[46]⟩, .string ⟨#[61]⟩, .string ⟨#[43]⟩, .string ⟨#[45]⟩, .string ⟨#[42]⟩, .string ⟨#[38]⟩, .string ⟨#[124]⟩, .string ⟨#[94]⟩, .string ⟨#[60]⟩]) (.int .i64 (k : Int))).run Try.prog w = .ok (.string (signAt k)) w := by
  rcases (show k = 0 ∨ k = 1 ∨ k = 2 ∨ k = 3 ∨ k = 4 ∨ k = 5 ∨ k = 6 ∨ k = 7 ∨ k = 8 ∨ k = 9 ∨ k = 10 ∨ k = 11 ∨ k = 12 ∨ k = 13 ∨ k = 14 ∨ k = 15 ∨ k = 16 ∨ k = 17 ∨ k = 18 ∨ k = 19 by omega) with rfl | rfl | rfl | rfl | rfl | rfl | rfl | rfl | rfl | rfl | rfl | rfl | rfl | rfl | rfl | rfl | rfl | rfl | rfl | rfl
  all_goals simp [go_sem, Instr.index, signAt, signs]

set_option maxRecDepth 100000 in
set_option maxHeartbeats 2000000 in
theorem signs_stops (F : Fence) (n : Nat) (h : F.fn 33) (hro : F.round = none) (hn : 1 ≤ n) (Kp : World → World → Prop) (w : World) :
    SeqStopsK F n Try.prog 33 #[] (fun x : ByteArray => #[.string x]) Kp (fun xs => xs = upto 20) (fun pre => pre <+: upto 20) 20 w := fun l J Jx W _ _ _ hY h0 => by
  refine callsIn_of_wp Try.func33 rfl h ?_ hro
  simp only [Try.ntmps33, List.size_toArray, List.length_cons, List.length_nil, Nat.reduceAdd, Nat.reduceSub, Array.replicate_succ, Array.replicate_zero, List.push_toArray, List.append_toArray, List.nil_append, List.cons_append]
  gi_wp2
  gi_loopw [5] (fun p wr => ∃ k : Nat, k ≤ 20 ∧ p = .int .i64 k ∧ J (upto k) wr) (fun p _ => 20 - (intOf p).toNat)
  case atStart => exact ⟨0, by omega, rfl, h0⟩
  case round =>
    obtain ⟨k, hk, rfl, hJ⟩ := hrel
    by_cases hlt : k < 20
    · have hltI : (k : Int) < 20 := by omega
      have hidx := index_sign k hlt
      obtain ⟨fn, tmps, assign, body, hy, hR⟩ := hY (upto k) (signAt k) wr hJ (by rw [upto_length]; exact hlt)
      gi_wp2
      refine hR.mono ?_
      rintro e W3 (⟨rfl, hJ3, _⟩ | ⟨rfl, hJx3⟩)
      · gi_wp2
        go_roundw
        case rel => exact ⟨k + 1, by omega, by go_num, by rw [upto_succ]; exact hJ3⟩
        case measure => simp [intOf]; omega
      · gi_wp2
        refine bodyPost_ret (results_none rfl _ _ _) rfl ?_
        exact ⟨⟨_, rfl⟩, .inr ⟨upto (k + 1), upto_prefix (by omega), by rw [upto_succ]; exact hJx3⟩⟩
    · obtain rfl : k = 20 := by omega
      gi_wp2
      go_end0
      exact ⟨⟨_, rfl⟩, .inl ⟨upto 20, rfl, hJ⟩⟩
end Go.Proofs.Ytmmcpjmgindpkad.Signs
