/-
  THE WALK OF THE LAW 'barbicanlaw.TreeIdents': at every text the call returns true, and lays new memory alone.
  Conditions: none.
-/
import Derived.Test.YtpppjaendgkhnadIdent
namespace Go.Proofs.Ytpppjaendgkhnad.IdentWalk
open Go.RowKit Bytes Words Go.Proofs.Ytpppjaendgkhnad.Ident

theorem walk (s : ByteArray) (hs : s.size ≤ maxLen) (w : World) : Calls Try.prog 6 #[.string s] w fun e w' => e = .returned (.bool true) ∧ Below w.heap.size w w' := by
  obtain ⟨b, hb⟩ : ∃ b, b = identB s := ⟨_, rfl⟩
  have k15 : ∀ W, Calls Try.prog 15 #[.string s] W fun e w' => e = .returned (.bool b) ∧ Below W.heap.size W w' := fun W => by rw [hb]; exact ident s hs W
  have k16 : ∀ W, Calls Try.prog 16 #[.string s] W fun e w' => e = .returned (.bool b) ∧ Below W.heap.size W w' := fun W => by rw [hb]; exact nameMay s hs W
  clear hb
  cases b
  all_goals
    go_enter Try.func6, Try.ntmps6
    go_wp2_with (first
      | (go_at_call 15; refine (k15 _).mono ?_; rintro e w1 ⟨rfl, hb1⟩)
      | (go_at_call 16; refine (k16 _).mono ?_; rintro e w2 ⟨rfl, hb2⟩))
    go_ret
    exact ⟨rfl, hb1.trans (hb2.mono hb1.size)⟩
end Go.Proofs.Ytpppjaendgkhnad.IdentWalk
