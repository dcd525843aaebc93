/-
  THE WALK OF THE LAW 'barbicanlaw.TokenNumbers': at every text the call returns true, and lays new memory alone.
  Conditions: none.
-/
import Derived.Test.YtmmcpjmgindpkadNumbers
namespace Go.Proofs.Ytmmcpjmgindpkad.NumWalk
open Go.RowKit Bytes Words Numbers

theorem walk (s : ByteArray) (hs : s.size ≤ maxLen) (w : World) : Calls Try.prog 3 #[.string s] w fun e w' => e = .returned (.bool true) ∧ Below w.heap.size w w' := by
  obtain ⟨n, hn⟩ : ∃ n, n = (numOf s.data.toList).1 := ⟨_, rfl⟩
  obtain ⟨b, hb⟩ : ∃ b, b = (numOf s.data.toList).2 := ⟨_, rfl⟩
  have k6 : ∀ W, Calls Try.prog 6 #[.string s] W fun e w' => e = .returned (.tuple #[.int .i64 n, .bool b]) ∧ w' = W.alloc (.cells #[.string s] 9) := fun W => by rw [hn, hb]; exact number s hs W
  have k7 : ∀ W, Calls Try.prog 7 #[.string s] W fun e w' => e = .returned (.tuple #[.int .i64 n, .bool b]) ∧ w' = W := fun W => by rw [hn, hb]; exact numberOf s hs W
  clear hn hb
  cases b
  all_goals
    go_enter Try.func3, Try.ntmps3
    go_wp2_with (first
      | (go_at_call 6; refine (k6 _).mono ?_; rintro e w' ⟨rfl, rfl⟩)
      | (go_at_call 7; refine (k7 _).mono ?_; rintro e w' ⟨rfl, rfl⟩))
    go_ret
    exact ⟨rfl, (Below.refl _ _).alloc (Nat.le_refl _) _⟩
end Go.Proofs.Ytmmcpjmgindpkad.NumWalk
