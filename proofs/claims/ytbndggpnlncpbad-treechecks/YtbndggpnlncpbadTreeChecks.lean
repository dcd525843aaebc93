/-
  THE LAW 'barbicanlaw.TreeChecks' IS TRUE AT EVERY INPUT: tree.Check answers what the document's answer to P6.3 says, for every unit; the call returns true and the unit reads as it did.
  Conditions: none beyond the row's own.
-/
import Derived.Test.YtbndggpnlncpbadUnitHead
import Derived.Test.YtbndggpnlncpbadRefUnit
import Derived.Test.YtbndggpnlncpbadOpened
import Derived.Test.YtbndggpnlncpbadRows
import Derived.ChangeMaps5
namespace Go.Proofs.Ytbndggpnlncpbad.TreeChecks
open Go.ChangeShapes Go.WideShapes Go.ChangeAt Go.RowKit Go.Joins Trees Forms UnitCheck

theorem walk (u : UnitD) (w : World) (hu : UnitLies w u) :
    Calls Try.prog 7 #[.agg #[.string u.name, .slice u.va u.vl u.vc, .slice u.aa u.al u.ac, .slice u.fa u.fl u.fc]] w fun e w' => e = .returned (.bool true) ∧ Below w.heap.size w w' := by
  have k17 : ∀ W, Below w.heap.size w W → _ := fun W hb => UnitHead.check u W (UnitLies_below hb hu)
  have k18 : ∀ W, Below w.heap.size w W → _ := fun W hb => RefUnit.ref u W (UnitLies_below hb hu)
  generalize unitFault u = r at k17 k18
  clear hu
  obtain ⟨name, va, vl, vc, vs, aa, al, ac, an, az, fa, fl, fc, fs⟩ := u
  dsimp only at k17 k18 ⊢
  have hb0 := below1 w (.cells #[.string name, .slice va vl vc, .slice aa al ac, .slice fa fl fc] 37)
  go_enter Try.func7, Try.ntmps7
  go_wp2_with (first
    | (go_at_call 17; refine (k17 _ hb0).mono ?_; rintro e w1 ⟨rfl, hb1⟩; obtain ⟨q0, q1, q2, q3⟩ := box4 hb1; have hb2 := hb0.trans (hb1.mono hb0.size); clear hb1)
    | (go_at_call 18; refine (k18 _ hb2).mono ?_; rintro e w2 ⟨rfl, hb3⟩; have hb4 := hb2.trans (hb3.mono hb2.size)))
  go_ret
  exact ⟨rfl, hb4⟩

set_option maxRecDepth 100000 in
theorem lifted (os : Os) (started : os.Started) (H : Type) (enc : TypeId × Value → H) :
    ReturnsInHanded {} Try.checked os 7 .any (Rows.treeChecksSpec.pre6 enc Try.prog Try.f7 Rows.treeChecksRow.domain false) (Rows.treeChecksSpec.post enc Try.prog Try.f7 false true false false) := by
  refine returnsInHanded_of_change (C := Try.checked) Opened.own started (by kernel_rfl) Try.func7
    (ChangeSpec.witness6 (enc := enc) (C := Try.checked) false ⟨#[], #[.agg #[.string ⟨#[97]⟩, .slice none 0 0, .slice none 0 0, .slice none 0 0]], []⟩ 8 (by kernel_rfl) (by kernel_rfl) (by kernel_rfl) (by kernel_rfl)) ?_
  intro W base args ds gs before hval0 hW hcnd _
  have hval : ∀ (j : Nat) t v, Try.f7.params[j]? = some t → args[j]? = some v → Value.okWide Try.prog W .any base t v := hval0
  have hW' := hW
  obtain ⟨p, q, hA0, hV, rfl, hfz, hnd⟩ := hW
  have hA : DataW.TrodAll enc Try.prog W 0 (fun _ => true) true Try.f7.params.toList args.toList ds p := hA0
  rw [Try.params7] at hA hval
  obtain ⟨v0, d0, rfl, rfl, h0⟩ := trodAll_one hA
  obtain ⟨rfl, rfl⟩ := trodVars_none hV
  obtain ⟨fuel, hf⟩ := id h0
  obtain ⟨u, rfl, hu⟩ := Opened.unit (hval 0 37 v0 rfl rfl) h0
  clear hA0 hval0
  simp only [List.append_nil] at hW'
  refine (walk u W hu).mono fun e W' ⟨he, hb⟩ => ?_
  subst he
  exact ⟨_, rfl, _, _, _, [], p, [], hW', trodAll_mk1 (shut_bool Try.underlying4 _), trodAll_mk1 (Below.trod Opened.laidOut (by kernel_rfl) (of_decide_eq_true (by kernel_rfl)) h0 hb (DataW.trod_lt fuel _ _ _ hf)), rfl, hb.frame _, fun h => by cases h⟩

theorem over : Rows.treeChecksRow.holds Try.pinned (OpenSpec.ofChange Rows.treeChecksSpec) :=
  OpenClaim.holds_of_wide 7 Try.f7 rfl rfl rfl rfl rfl rfl rfl ⟨rfl, rfl, rfl, rfl, rfl⟩ rfl rfl rfl rfl rfl (by kernel_rfl) Try.func7 (by kernel_rfl)
    (of_decide_eq_true (by kernel_rfl)) (by unfold Func.isWrapper; first | (rw [if_pos (by decide +kernel)]; kernel_rfl) | (rw [if_neg (by decide +kernel)]; exact ⟨rfl, rfl⟩))
    (fun os started H enc _ => lifted os started H enc)
end Go.Proofs.Ytbndggpnlncpbad.TreeChecks
namespace Go.Proofs.Ytbndggpnlncpbad
/-- THE STATEMENT -/
theorem treeChecks_holds : Rows.TreeChecksSaid := TreeChecks.over
#print axioms treeChecks_holds
end Go.Proofs.Ytbndggpnlncpbad
