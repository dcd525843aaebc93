/-
  THE TWO HELPERS OF 'barbicankeep.WordsRound': 'picked', and its closure 'do', at every argument: each call returns and changes nothing.
  Conditions: each contract's own hypotheses.
-/
import Derived.Test.YtaindklgmcdnnaaDo
import Derived.Deep.RegionWith
import Derived.OpenShut
namespace Go.Proofs.Ytaindklgmcdnnaa.Round
open Go.RowKit Plain

/-- What 'picked' gives. -/
def pk (n : Int) (m : Nat) : Nat := ((if n < 0 then -(n + 1) else n) % m).toNat

theorem pk_lt (n : Int) (m : Nat) (hm : 0 < m) : pk n m < m := by
  unfold pk
  have h := Int.emod_lt_of_pos (if n < 0 then -(n + 1) else n) (show (0 : Int) < m by omega)
  have h0 := Int.emod_nonneg (if n < 0 then -(n + 1) else n) (show (m : Int) ≠ 0 by omega)
  omega

theorem pk_eq (n : Int) (m : Nat) (hm : 0 < m) : ((pk n m : Nat) : Int) = (if n < 0 then -(n + 1) else n) % m := by
  unfold pk
  exact Int.toNat_of_nonneg (Int.emod_nonneg _ (by omega))

theorem picked (n : Int) (wn : (Lit.int .i64 n).wf = true) (m : Nat) (hm : 0 < m) (hm' : m ≤ 65536) (w : World) :
    Calls Try.prog 10 #[.int .i64 n, .int .i64 m] w fun e w' => e = .returned (.int .i64 (pk n m : Nat)) ∧ w' = w := by
  have hb := bounds_i64 wn
  have he := pk_eq n m hm
  by_cases c : n < 0
  · rw [if_pos c] at he
    go_enter Try.func10, Try.ntmps10
    go_wp2
    go_ret
    exact ⟨by simp [he]; rw [← Int.neg_tmod]; exact Int.tmod_eq_emod_of_nonneg (by omega), rfl⟩
  · rw [if_neg c] at he
    go_enter Try.func10, Try.ntmps10
    go_wp2
    go_ret
    exact ⟨by simp, rfl⟩

/-- What the closure gives: the operation, or -1. -/
def cl (op a b : Int) : Int := if (1 ≤ op ∧ op ≤ 10) ∧ ((0 ≤ a ∧ a ≤ 65535) ∧ (0 ≤ b ∧ b ≤ 65535)) then wdo op a b else -1

theorem clo (op a b : Int) (w : World) :
    Calls Try.prog 11 #[.int .i64 op, .int .i64 a, .int .i64 b] w fun e w' => e = .returned (.int .i64 (cl op a b)) ∧ w' = w := by
  by_cases c : 1 ≤ op ∧ op ≤ 10
  · by_cases d : (0 ≤ a ∧ a ≤ 65535) ∧ (0 ≤ b ∧ b ≤ 65535)
    · have hcl : cl op a b = wdo op a b := if_pos ⟨c, d⟩
      obtain ⟨c1, c2⟩ := c
      obtain ⟨⟨d1, d2⟩, d3, d4⟩ := d
      rw [hcl]
      clear hcl
      go_enter Try.func11, Try.ntmps11
      go_wp2_with (go_at_call 8; refine (Do.ok op a b c1 c2 d1 d2 d3 d4 _).mono ?_; rintro e w' ⟨rfl, rfl⟩)
      go_ret
      exact ⟨rfl, rfl⟩
    · have hcl : cl op a b = -1 := if_neg (fun h => d h.2)
      obtain ⟨c1, c2⟩ := c
      rw [hcl]
      clear hcl
      go_enter Try.func11, Try.ntmps11
      go_wp2_with (go_at_call 8; refine (Do.range op a b c1 c2 d _).mono ?_; rintro e w' ⟨rfl, rfl⟩)
      go_ret
      exact ⟨rfl, rfl⟩
  · have hcl : cl op a b = -1 := if_neg (fun h => c h.1)
    rw [hcl]
    clear hcl
    go_enter Try.func11, Try.ntmps11
    go_wp2_with (go_at_call 8; refine (Do.kind op a b c _).mono ?_; rintro e w' ⟨rfl, rfl⟩)
    go_ret
    exact ⟨rfl, rfl⟩

end Go.Proofs.Ytaindklgmcdnnaa.Round
