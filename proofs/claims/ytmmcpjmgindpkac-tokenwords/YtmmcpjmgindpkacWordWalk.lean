/-
  THE WALK OF THE LAW 'barbicanlaw.TokenWords': at every text the call returns true, and lays new memory alone.
  Conditions: none.
-/
import Derived.Test.YtmmcpjmgindpkacWords
namespace Go.Proofs.Ytmmcpjmgindpkac.WordWalk
open Go.RowKit Bytes Words

theorem walk (s : ByteArray) (hs : s.size ≤ maxLen) (w : World) : Calls Try.prog 3 #[.string s] w fun e w' => e = .returned (.bool true) ∧ Below w.heap.size w w' := by
  obtain ⟨b, hb⟩ : ∃ b, b = wordB s.data.toList := ⟨_, rfl⟩
  have k4 : ∀ W, Calls Try.prog 4 #[.string s] W fun e w' => e = .returned (.bool b) ∧ w' = W.alloc (.cells #[.string s] 9) := fun W => by rw [hb]; exact word s hs W
  have k5 : ∀ W, Calls Try.prog 5 #[.string s] W fun e w' => e = .returned (.bool b) ∧ w' = W := fun W => by rw [hb]; exact wordMay s hs W
  clear hb
  cases b
  all_goals
    go_enter Try.func3, Try.ntmps3
    go_wp2_with (first
      | (go_at_call 4; refine (k4 _).mono ?_; rintro e w' ⟨rfl, rfl⟩)
      | (go_at_call 5; refine (k5 _).mono ?_; rintro e w' ⟨rfl, rfl⟩))
    go_ret
    exact ⟨rfl, (Below.refl _ _).alloc (Nat.le_refl _) _⟩
end Go.Proofs.Ytmmcpjmgindpkac.WordWalk
