/-
  THE LAW 'barbicankeep.WordsRound' IS TRUE AT EVERY INPUT: what is added and taken away is as it was, and the other laws of words that it lists, for every three ints; the call returns true and changes nothing.
  Conditions: none beyond the row's own.
-/
import Derived.Test.YtaindklgmcdnnaaRows
import Derived.Test.YtaindklgmcdnnaaRoundPlain
import Derived.WalkKit
import Derived.ProofKit
import Derived.OpenShut
import Derived.Deep.QuietTactic
import Derived.BigQuiet
namespace Go.Proofs.Ytaindklgmcdnnaa.wordsRound
open Go.ChangeShapes Go.WideShapes Go.ChangeAt Go.RowKit Plain Round
set_option linter.unusedVariables false

theorem own : ownKnob Try.prog.godebug = none := by kernel_rfl

theorem pick16 (n : Int) (wn : (Lit.int .i64 n).wf = true) (x : Nat) (h : pk n 65536 = x) (w : World) :
    Calls Try.prog 10 #[.int .i64 n, .int .i64 65536] w fun e w' => e = .returned (.int .i64 (x : Nat)) ∧ w' = w := by
  subst h
  exact picked n wn 65536 (by decide) (by decide) w

theorem pick4 (n : Int) (wn : (Lit.int .i64 n).wf = true) (x : Nat) (h : pk n 16 = x) (w : World) :
    Calls Try.prog 10 #[.int .i64 n, .int .i64 16] w fun e w' => e = .returned (.int .i64 (x : Nat)) ∧ w' = w := by
  subst h
  exact picked n wn 16 (by decide) (by decide) w

theorem bool7 (x y : Nat) (hx : x < 65536) (hy : y < 65536) : 0 ≤ cl 7 x y ∧ cl 7 x y ≤ 1 := by
  rw [cl7 x y hx hy]; split <;> omega
theorem bool8 (x y : Nat) (hx : x < 65536) (hy : y < 65536) : 0 ≤ cl 8 x y ∧ cl 8 x y ≤ 1 := by
  rw [cl8 x y hx hy]; split <;> omega

set_option maxHeartbeats 4000000 in
theorem walk (a0 : Int) (a1 : Int) (a2 : Int) (w0 : (Lit.int .i64 a0).wf = true) (w1 : (Lit.int .i64 a1).wf = true) (w2 : (Lit.int .i64 a2).wf = true) (w : World) :
    Calls Try.prog 5 #[.int .i64 a0, .int .i64 a1, .int .i64 a2] w fun e w' => e = .returned (.bool true) ∧ Grown w w' := by
  obtain ⟨x, hx⟩ : ∃ x, pk a0 65536 = x := ⟨_, rfl⟩
  obtain ⟨y, hy⟩ : ∃ x, pk a1 65536 = x := ⟨_, rfl⟩
  obtain ⟨k, hk⟩ : ∃ x, pk a2 16 = x := ⟨_, rfl⟩
  have bx : x < 65536 := hx ▸ pk_lt a0 65536 (by decide)
  have by' : y < 65536 := hy ▸ pk_lt a1 65536 (by decide)
  have bk : k < 16 := hk ▸ pk_lt a2 16 (by decide)
  have l1 := law1 x y bx by'
  have l2 := law2 x y bx by'
  have l3 := law3 x y bx by'
  have l4 := law4 x y bx by'
  have b7 := bool7 x y bx by'
  have b7' := bool7 y x by' bx
  have b8 := bool8 x y bx by'
  have l5 : (cl 9 x k == cl 3 x (wrap64 (2 ^ k))) = true := by
    have hp := pow_small k bk
    have he : wrap64 ((2 : Int) ^ k) = ((2 ^ k : Nat) : Int) := by
      rw [show ((2 : Int) ^ k) = ((2 ^ k : Nat) : Int) by simp]
      generalize 2 ^ k = p at hp
      exact IntWalk.wrap64_in _ ⟨by omega, by omega⟩
    rw [he, law5 x k bx bk]; simp
  have l6 : (cl 10 (cl 9 x k) k == cl 4 x (65535 / 2 ^ k)) = true := by
    have he : (65535 : Int) / 2 ^ k = ((65535 / 2 ^ k : Nat) : Int) := by simp
    rw [he, law6 x k bx bk]; simp
  have l7 := law7 x
  go_enter Try.func5, Try.ntmps5
  go_wp2_with (first
    | (go_at_call_of 10 (Value.int .i64 a0); refine (pick16 a0 w0 x hx _).mono ?_; rintro e w' ⟨rfl, rfl⟩)
    | (go_at_call_of 10 (Value.int .i64 a1); refine (pick16 a1 w1 y hy _).mono ?_; rintro e w' ⟨rfl, rfl⟩)
    | (go_at_call_of 10 (Value.int .i64 a2); refine (pick4 a2 w2 k hk _).mono ?_; rintro e w' ⟨rfl, rfl⟩))
  dsimp only [List.append]
  refine wp_region_quiet_lit (by kernel_rfl) (by kernel_rfl) ?_
  repeat (go_big_quiet_step (first | (go_at_call 11; exact Calls.quiet_of_same (clo _ _ _ _))))
  refine wpQuiet_nil ?_
  intro _ hw'
  obtain ⟨nq, hw''⟩ := hw'
  subst hw''
  go_wp2
  go_ret
  exact ⟨rfl, (Grown.refl _ : Grown w' w')⟩

/-! ### THE ROW's STEP: WRITTEN OUT: LEAVE IT -/
set_option maxRecDepth 100000 in
theorem lifted (os : Os) (started : os.Started) (H : Type) (enc : TypeId × Value → H) :
    ReturnsInHanded {} Try.checked os 5 .any (Rows.wordsRoundSpec.pre6 enc Try.prog Try.f5 Rows.wordsRoundRow.domain false) (Rows.wordsRoundSpec.post enc Try.prog Try.f5 false true false false) := by
  refine returnsInHanded_of_change (C := Try.checked) own started (by kernel_rfl) Try.func5
    (ChangeSpec.witness6 (enc := enc) (C := Try.checked) false ⟨#[], #[.int .i64 0, .int .i64 0, .int .i64 0], []⟩ 8 (by kernel_rfl) (by kernel_rfl) (by kernel_rfl) (by kernel_rfl)) ?_
  intro W base args ds gs before hval0 hW hcnd _
  have hval : ∀ (j : Nat) t v, Try.f5.params[j]? = some t → args[j]? = some v → Value.okWide Try.prog W .any base t v := hval0
  have hW' := hW
  obtain ⟨p, q, hA0, hV, rfl, hfz, hnd⟩ := hW
  have hA : DataW.TrodAll enc Try.prog W 0 (fun _ => true) true Try.f5.params.toList args.toList ds p := hA0
  rw [Try.params5] at hA hval
  obtain ⟨v0, vs0, d0, ds0, p0, q0, hargs, rfl, rfl, h0, r0⟩ := trodAll_cons hA
  obtain ⟨v1, vs1, d1, ds1, p1, q1, rfl, rfl, rfl, h1, r1⟩ := trodAll_cons r0
  obtain ⟨v2, vs2, d2, ds2, p2, q2, rfl, rfl, rfl, h2, r2⟩ := trodAll_cons r1
  obtain ⟨rfl, rfl, rfl⟩ := trodAll_nil r2
  obtain rfl : args = #[v0, v1, v2] := by cases args; simp_all
  obtain ⟨rfl, rfl⟩ := trodVars_none hV
  obtain ⟨a0, rfl, rfl, rfl, w0⟩ := open_int Try.underlying3 (hval 0 3 v0 rfl rfl) h0
  obtain ⟨a1, rfl, rfl, rfl, w1⟩ := open_int Try.underlying3 (hval 1 3 v1 rfl rfl) h1
  obtain ⟨a2, rfl, rfl, rfl, w2⟩ := open_int Try.underlying3 (hval 2 3 v2 rfl rfl) h2
  clear hA0 hval0
  simp only [List.append_nil] at hW'
  refine (walk a0 a1 a2 w0 w1 w2 W).mono fun e W' ⟨he, hg⟩ => ?_
  subst he
  exact ⟨_, rfl, post_of_same (pa := []) (pv := []) hW' (fun _ _ _ => (trodAll_cons_mk (shut_bool Try.underlying4 _) trodAll_mk0)) (fun sp _ => (trodAll_cons_mk (shut_int Try.underlying3 w0) (trodAll_cons_mk (shut_int Try.underlying3 w1) (trodAll_cons_mk (shut_int Try.underlying3 w2) trodAll_mk0)))) (fun _ _ => rfl) rfl
    (hg.frame _) hg.2.1 (ok_one (by kernel_rfl) rfl (okWide_bool_mk Try.underlying4 _))⟩

theorem over : Rows.wordsRoundRow.holds Try.pinned (OpenSpec.ofChange Rows.wordsRoundSpec) :=
  OpenClaim.holds_of_wide 5 Try.f5 rfl rfl rfl rfl rfl rfl rfl ⟨rfl, rfl, rfl, rfl, rfl⟩ rfl rfl rfl rfl rfl (by kernel_rfl) Try.func5 (by kernel_rfl)
    (of_decide_eq_true (by kernel_rfl)) (by unfold Func.isWrapper; first | (rw [if_pos (by decide +kernel)]; kernel_rfl) | (rw [if_neg (by decide +kernel)]; exact ⟨rfl, rfl⟩))
    (fun os started H enc _ => lifted os started H enc)

/-- ████ THE STATEMENT ████ -/
theorem proved : Rows.WordsRoundSaid :=
  over
end Go.Proofs.Ytaindklgmcdnnaa.wordsRound
namespace Go.Proofs.Ytaindklgmcdnnaa
theorem wordsRound_holds : Rows.WordsRoundSaid := wordsRound.proved
#print axioms wordsRound_holds
end Go.Proofs.Ytaindklgmcdnnaa
