/-
  THE LAW 'barbicankeep.ProgramsGood' IS TRUE AT EVERY INPUT: nothing is refused of a program of whatever raw things; with a name that is not there it is refused, and with a name that stands twice; the call returns true and the arguments read as they did.
  Conditions: none beyond the row's own (the names 'barbicankeep.units' read as their initialiser lays them: the card ties that to the program's text).
-/
import Derived.Test.YtgjemlhnlpglbaaDoorR52
import Derived.Test.YtgjemlhnlpglbaaDoorR53
import Derived.Test.YtgjemlhnlpglbaaDoorCards
import Derived.Test.YtgjemlhnlpglbaaDoorTie
import Derived.Stop.Joined
namespace Go.Proofs.YtgjemlhnlpglbaaDoor.ProgramsGood
open Go.ChangeShapes Go.WideShapes Go.ChangeAt Go.RowKit Go.Joins PPlain PRaw PExprBase POpen

theorem own : ownKnob Tryd.prog.godebug = none := by kernel_rfl
theorem laidOut : laidOutB Tryd.prog = true := by kernel_rfl

set_option maxRecDepth 100000 in
theorem lifted (os : Os) (started : os.Started) (H : Type) (enc : TypeId × Value → H) :
    ReturnsInHanded {} Tryd.checked os 3 .any (fun w args => (Rows.programsGoodSpec.pre enc Tryd.prog Tryd.f3 [] false w args ∧ laidMetH Tryd.prog [("barbican/barbicankeep.units", Rows.laid_barbican_barbicankeep_units)] w) ∧ sizedMet enc Tryd.prog Tryd.f3 (OpenSpec.ofChange Rows.programsGoodSpec) false w args)
      (Rows.programsGoodSpec.post enc Tryd.prog Tryd.f3 false true false false) := by
  refine returnsInHanded_of_change_and (C := Tryd.checked) (X := fun w _ => laidMetH Tryd.prog [("barbican/barbicankeep.units", Rows.laid_barbican_barbicankeep_units)] w) (fun _ _ _ hh h => h.of_heap hh) own started (by kernel_rfl) Tryd.func3
    (ChangeSpec.witness_shaped (enc := enc) (C := Tryd.checked) (os := os) (X := fun w _ => laidMetH Tryd.prog [("barbican/barbicankeep.units", Rows.laid_barbican_barbicankeep_units)] w) false (World.doorLaid Tryd.prog 115 os) #[.slice none 0 0, .int .i64 0] 8 rfl (World.shaped_of_RefB (by kernel_rfl) (by kernel_rfl)) (by kernel_rfl) (by kernel_rfl) (by kernel_rfl)
      (laidMetH_of_parts3 (fuel := 8) (laidMet_of_run' 8 (by kernel_rfl) (by kernel_rfl)) (by kernel_rfl) (by kernel_rfl))) ?_
  intro W base args ds gs before hval0 hW _ hsz0 hL _
  have hval : ∀ (j : Nat) t v, Tryd.f3.params[j]? = some t → args[j]? = some v → Value.okWide Tryd.prog W .any base t v := hval0
  have hsz : (DataW.weightsEach Tryd.prog (Tryd.f3.params.toList ++ Rows.programsGoodSpec.plain.varTypes Tryd.prog) (ds ++ gs)).all (· ≤ reachBytes) = true := hsz0
  have hW' := hW
  obtain ⟨p, q, hA0, hV, rfl, hfz, hnd⟩ := hW
  have hA : DataW.TrodAll enc Tryd.prog W 0 (fun _ => true) true Tryd.f3.params.toList args.toList ds p := hA0
  rw [Tryd.params3] at hA hval hsz
  obtain ⟨v0, vs0, d0, ds0, p0, q0, hargs, rfl, rfl, h0, r0⟩ := trodAll_cons hA
  obtain ⟨v1, vs1, d1, ds1, p1, q1, rfl, rfl, rfl, h1, r1⟩ := trodAll_cons r0
  obtain ⟨rfl, rfl, rfl⟩ := trodAll_nil r1
  obtain rfl : args = #[v0, v1] := by cases args; simp_all
  obtain ⟨rfl, rfl⟩ := trodVars_none hV
  obtain ⟨fuel, hf⟩ := id h0
  obtain ⟨ao, len, cap, rfl⟩ := okWide_slice Tryd.underlying22 (hval 0 22 v0 rfl rfl)
  have hby : len ≤ 140737488355328 := sized_raws hsz (j := 0) rfl rfl h0
  obtain ⟨ao', len', cap', R, hcs, hlc, hin⟩ := open_raws hf
  obtain ⟨rfl, rfl, rfl⟩ : ao = ao' ∧ len = len' ∧ cap = cap' := by simpa [Value.cells] using hcs
  obtain ⟨n, rfl, rfl, rfl, wn⟩ := open_int Tryd.underlying3 (hval 1 3 v1 rfl rfl) h1
  clear hA0 hval0
  simp only [List.append_nil] at hW'
  refine (PGoodRun.walk W ao len cap ⟨hlc, hby, R, hin⟩ (lies hL) n (fits_of wn)).mono fun e W' ⟨he, hb⟩ => ?_
  subst he
  have hagain : DataW.TrodAll enc Tryd.prog W' 0 (fun b => decide (b < W.heap.size)) true [22, 3] [.slice ao len cap, .int .i64 n] [d0, .lit (.int .i64 n)] p0 := by
    have h := trodAll_mk2 (Below.trod laidOut (by kernel_rfl) (of_decide_eq_true (by kernel_rfl)) h0 hb (DataW.trod_lt fuel _ _ _ hf)) (shut_int Tryd.underlying3 wn)
    rwa [List.append_nil] at h
  exact ⟨_, rfl, _, _, _, [], p0, [], hW', trodAll_mk1 (shut_bool Tryd.underlying4 _), hagain, rfl, hb.frame _, fun h => by cases h⟩

theorem over : Rows.programsGoodRow.holds Tryd.pinned (OpenSpec.ofChange Rows.programsGoodSpec) :=
  OpenClaim.holds_of_wide 3 Tryd.f3 rfl rfl rfl rfl rfl rfl rfl ⟨rfl, rfl, rfl, rfl, rfl⟩ rfl rfl rfl rfl rfl (by kernel_rfl) Tryd.func3 (by kernel_rfl)
    (of_decide_eq_true (by kernel_rfl)) (by unfold Func.isWrapper; first | (rw [if_pos (by decide +kernel)]; kernel_rfl) | (rw [if_neg (by decide +kernel)]; exact ⟨rfl, rfl⟩))
    (fun os started H enc _ => lifted os started H enc)
end Go.Proofs.YtgjemlhnlpglbaaDoor.ProgramsGood
namespace Go.Proofs.YtgjemlhnlpglbaaDoor
/-- THE STATEMENT -/
theorem programsGood_holds : Rows.ProgramsGoodCardSaid :=
  Claim7.holds_tied_plain_at .later [] [.data] true (true, "0161d71ab5094fae17c8bee0f086b8e38f7132f82b3d8a40b01892bc3620545d") true
    ProgramsGood.over (fun _ h => by cases h) (by kernel_rfl) (fun _ h => by cases h) programsGood_row_tie rfl ⟨rfl, rfl⟩ (by kernel_rfl) rfl
    (fun f fn hf hfn => by
      obtain rfl : f = 3 := Option.some.inj ((show Tryd.prog.funcNamed "barbican/barbicankeep.ProgramsGood" = some 3 by kernel_rfl).symm.trans hf) |>.symm
      obtain rfl : fn = Tryd.f3 := (Option.some.inj (Tryd.func3.symm.trans hfn)).symm
      exact ⟨by kernel_rfl, fun j t ht => by
        rw [Tryd.params3] at ht
        have h3 : t = 22 ∨ t = 3 := by
          rcases j with _ | _ | j
          · exact .inl (by simpa using ht.symm)
          · exact .inr (by simpa using ht.symm)
          · simp at ht
        rcases h3 with rfl | rfl
        · exact (show Tryd.prog.wantsStandIn 22 = false by kernel_rfl)
        · exact (show Tryd.prog.wantsStandIn 3 = false by kernel_rfl)⟩)
    (by kernel_rfl)
#print axioms programsGood_holds
end Go.Proofs.YtgjemlhnlpglbaaDoor
