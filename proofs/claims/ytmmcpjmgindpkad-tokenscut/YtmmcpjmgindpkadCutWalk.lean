/-
  THE WALK OF THE LAW 'barbicanlaw.TokenCuts': at every text the call returns true, and lays new memory alone.
  Conditions: none.
-/
import Derived.Test.YtmmcpjmgindpkadRefCut
import Derived.Test.YtmmcpjmgindpkadSameTok
namespace Go.Proofs.Ytmmcpjmgindpkad.CutWalk
open Go.RowKit Bytes Go.Proofs.Ytmmcpjmgindpkad.Cut RefCut SameTok

theorem cut_length (l : List UInt8) : ∀ f i acc, (acc : List (Int × List UInt8)).length ≤ i → i ≤ l.length → (cut l f i acc).1.length ≤ l.length := by
  intro f
  induction f with
  | zero => intro i acc h hi; exact Nat.le_trans h hi
  | succ f ih =>
    intro i acc h hi
    by_cases hlt : i < l.length
    · cases hg : gapB (at_ l i)
      · cases ht : TokenAt.tok l i with
        | none => rw [cut_bad hlt hg ht]; exact Nat.zero_le _
        | some t =>
          have h2 := tok_len hlt ht
          rw [cut_tok hlt hg ht]
          exact ih _ _ (by simp; omega) h2.2
      · rw [cut_gap hlt hg]
        exact ih _ _ (by omega) (by omega)
    · rw [cut_end (by omega)]
      exact Nat.le_trans h hi

set_option maxHeartbeats 1600000 in
theorem walk (s : ByteArray) (hs : s.size ≤ maxLen) (w : World) : Calls Try.prog 4 #[.string s] w fun e w' => e = .returned (.bool true) ∧ Below w.heap.size w w' := by
  have hlen : s.data.toList.length = s.size := by cases s; rfl
  by_cases h3 : 3000 < s.size
  · have k8 : ∀ W, Calls Try.prog 8 #[.string s] W fun e w' => e = .returned (.tuple #[.slice none 0 0, .int .i64 1]) ∧ w' = W := fun W => Cut.great s h3 W
    have k9 : ∀ W, Calls Try.prog 9 #[.string s] W fun e w' => e = .returned (.tuple #[.slice none 0 0, .int .i64 1]) ∧ w' = W := fun W => RefCut.great s h3 W
    have k10 : ∀ W, Calls Try.prog 10 #[.slice none 0 0, .slice none 0 0] W fun e w' => e = .returned (.bool true) ∧ Below W.heap.size W w' := fun W => sameTokens 0 [] (by decide) _ _ W (World.ownsRow_nil _ _ _ _) (World.ownsRow_nil _ _ _ _)
    clear h3 hlen
    go_enter Try.func4, Try.ntmps4
    go_wp2_with (first
      | (go_at_call 8; refine (k8 _).mono ?_; rintro e w' ⟨rfl, rfl⟩)
      | (go_at_call 9; refine (k9 _).mono ?_; rintro e w' ⟨rfl, rfl⟩)
      | (go_at_call 10; refine (k10 _).mono ?_; rintro e w' ⟨rfl, hb⟩))
    go_ret
    exact ⟨rfl, hb⟩
  · obtain ⟨R, hR⟩ : ∃ R, cut s.data.toList (s.data.toList.length + 1) 0 [] = R := ⟨_, rfl⟩
    have hl : R.1.length ≤ 3000 := by
      have := cut_length s.data.toList (s.data.toList.length + 1) 0 [] (Nat.le_refl _) (Nat.zero_le _)
      rw [hR] at this
      omega
    have k8 : ∀ W, Calls Try.prog 8 #[.string s] W fun e w' => Below W.heap.size W w' ∧ ∃ v, e = .returned (.tuple #[v, .int .i64 R.2]) ∧ Rowed w' W.heap.size v R.1.length (flat R.1) := fun W => (cutGo s (by omega) R hR W).mono fun e w' ⟨hb, v, he, ho⟩ => ⟨hb, v, he, ⟨ho⟩⟩
    have k9 : ∀ W, Calls Try.prog 9 #[.string s] W fun e w' => Below W.heap.size W w' ∧ ∃ v, e = .returned (.tuple #[v, .int .i64 R.2]) ∧ Rowed w' W.heap.size v R.1.length (flat R.1) := fun W => (tokensOf s (by omega) R hR W).mono fun e w' ⟨hb, v, he, ho⟩ => ⟨hb, v, he, ⟨ho⟩⟩
    have k10 : ∀ B v v' W, Rowed W B v R.1.length (flat R.1) → Rowed W B v' R.1.length (flat R.1) → Calls Try.prog 10 #[v, v'] W fun e w' => e = .returned (.bool true) ∧ Below W.heap.size W w' := fun B v v' W h h' => sameTokens B R.1 hl v v' W h.out h'.out
    obtain ⟨r, er⟩ : ∃ r, R.2 = r := ⟨_, rfl⟩
    rw [er] at k8 k9
    clear h3 hlen hl hR er
    go_enter Try.func4, Try.ntmps4
    go_wp2_with (first
      | (go_at_call 8; refine (k8 _).mono ?_; rintro e w1 ⟨hb1, v1, rfl, ho1⟩)
      | (go_at_call 9; refine (k9 _).mono ?_; rintro e w2 ⟨hb2, v2, rfl, ho2⟩)
      | (go_at_call 10; refine (k10 _ _ _ _ ⟨owns_below ho1.out hb2⟩ ⟨row_mono ho2.out hb1.size⟩).mono ?_; rintro e w3 ⟨rfl, hb3⟩))
    go_ret
    exact ⟨rfl, (hb1.trans (hb2.mono hb1.size)).trans (hb3.mono (Nat.le_trans hb1.size hb2.size))⟩
end Go.Proofs.Ytmmcpjmgindpkad.CutWalk
