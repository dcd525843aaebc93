/-
  THE LAW 'barbicanlaw.NamesChecks' IS TRUE AT EVERY INPUT: names.Check answers what the document says of it (P7.2), for every list of units; the call returns true and all arguments read as they did.
  Conditions: none beyond the row's own.
-/
import Derived.Test.YtalnfnkpemojhaaQTop
import Derived.Test.YtalnfnkpemojhaaRows
import Derived.ChangeMaps5
namespace Go.Proofs.Ytalnfnkpemojhaa.NamesChecks
open Go.ChangeShapes Go.WideShapes Go.ChangeAt Go.RowKit Go.Joins Trees NSense

theorem walk (ao : Option Addr) (len cap : Nat) (U : Nat → UnitD) (hl : len ≤ maxLen) (w : World) (hU : URow w ao len U) (hro : ∀ i, i < len → NUOpen.Roomy (U i).fl (U i).fs) :
    Calls Try.prog 3 #[.slice ao len cap] w fun e w' => e = .returned (.bool true) ∧ Below w.heap.size w w' := by
  have kc : ∀ W, Below w.heap.size w W → _ := fun W hb => NCheck.check W len cap ao U hl (URow_below hb hU)
  have kr : ∀ W, Below w.heap.size w W → _ := fun W hb => NRefProg.ref W len cap ao U hl (URow_below hb hU) hro
  generalize programFault len U = r at kc kr
  have KC : Hid _ := kc
  have KR : Hid _ := kr
  clear hU hl hro kc kr
  go_enter Try.func3, Try.ntmps3
  go_wp2_with (first
    | (go_at_call 7; refine (KC.out _ (by exact Below.refl _ _)).mono ?_; rintro e w1 ⟨rfl, hb1⟩; have HB1 : Hid _ := hb1; clear hb1)
    | (go_at_call 8; refine (KR.out _ HB1.out).mono ?_; rintro e w2 ⟨rfl, hb2⟩; have HB2 : Hid _ := hb2; clear hb2))
  go_ret
  exact ⟨rfl, HB1.out.trans (HB2.out.mono HB1.out.size)⟩


set_option maxRecDepth 100000 in
theorem lifted (os : Os) (started : os.Started) (H : Type) (enc : TypeId × Value → H) :
    ReturnsInHanded {} Try.checked os 3 .any (Rows.namesChecksSpec.pre6 enc Try.prog Try.f3 Rows.namesChecksRow.domain false) (Rows.namesChecksSpec.post enc Try.prog Try.f3 false true false false) := by
  refine returnsInHanded_of_change (C := Try.checked) Opened.own started (by kernel_rfl) Try.func3
    (ChangeSpec.witness6 (enc := enc) (C := Try.checked) false ⟨#[], #[.slice none 0 0], []⟩ 8 (by kernel_rfl) (by kernel_rfl) (by kernel_rfl) (by kernel_rfl)) ?_
  intro W base args ds gs before hval0 hW hcnd _
  have hval : ∀ (j : Nat) t v, Try.f3.params[j]? = some t → args[j]? = some v → Value.okWide Try.prog W .any base t v := hval0
  have hW' := hW
  obtain ⟨p, q, hA0, hV, rfl, hfz, hnd⟩ := hW
  have hA : DataW.TrodAll enc Try.prog W 0 (fun _ => true) true Try.f3.params.toList args.toList ds p := hA0
  rw [Try.params3] at hA hval
  obtain ⟨v0, vs0, d0, ds0, p0, q0, hargs, rfl, rfl, h0, r0⟩ := trodAll_cons hA
  obtain ⟨rfl, rfl, rfl⟩ := trodAll_nil r0
  obtain rfl : args = #[v0] := by cases args; simp_all
  obtain ⟨rfl, rfl⟩ := trodVars_none hV
  obtain ⟨fuel0, hf0⟩ := id h0
  obtain ⟨ua, ul, uc, rfl⟩ := okWide_slice Try.underlying22 (hval 0 22 v0 rfl rfl)
  obtain ⟨ao, len, cap, U, hcs, hl, hU, hro⟩ := NUOpen.units hf0
  obtain ⟨rfl, rfl, rfl⟩ : ua = ao ∧ ul = len ∧ uc = cap := by simpa [Value.cells] using hcs
  clear hA0 hval0
  simp only [List.append_nil] at hW'
  refine (walk ua ul uc U hl W hU hro).mono fun e W' ⟨he, hb⟩ => ?_
  subst he
  exact ⟨_, rfl, _, _, _, [], _, [], hW', trodAll_mk1 (shut_bool Try.underlying4 _), (trodAll_cons_mk (Below.trod Opened.laidOut (by kernel_rfl) (of_decide_eq_true (by kernel_rfl)) h0 hb (DataW.trod_lt fuel0 _ _ _ hf0)) trodAll_mk0), rfl, hb.frame _, fun h => by cases h⟩

theorem over : Rows.namesChecksRow.holds Try.pinned (OpenSpec.ofChange Rows.namesChecksSpec) :=
  OpenClaim.holds_of_wide 3 Try.f3 rfl rfl rfl rfl rfl rfl rfl ⟨rfl, rfl, rfl, rfl, rfl⟩ rfl rfl rfl rfl rfl (by kernel_rfl) Try.func3 (by kernel_rfl)
    (of_decide_eq_true (by kernel_rfl)) (by unfold Func.isWrapper; first | (rw [if_pos (by decide +kernel)]; kernel_rfl) | (rw [if_neg (by decide +kernel)]; exact ⟨rfl, rfl⟩))
    (fun os started H enc _ => lifted os started H enc)
end Go.Proofs.Ytalnfnkpemojhaa.NamesChecks
namespace Go.Proofs.Ytalnfnkpemojhaa
/-- THE STATEMENT -/
theorem namesChecks_holds : Rows.NamesChecksSaid := NamesChecks.over
#print axioms namesChecks_holds
end Go.Proofs.Ytalnfnkpemojhaa
