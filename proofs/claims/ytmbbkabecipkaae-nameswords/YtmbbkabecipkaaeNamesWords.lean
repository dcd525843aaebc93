/-
  THE LAW 'barbicanlaw.NamesWords' IS TRUE AT EVERY INPUT: names.Words answers what the document says of it (P7.1), for every unit that may be; of a unit that may not be the document promises nothing here, and the statement asks nothing; the call returns true and all arguments read as they did.
  Conditions: none beyond the row's own.
-/
import Derived.Test.YtmbbkabecipkaaeNWords
import Derived.Test.YtmbbkabecipkaaeOpened
import Derived.Test.YtmbbkabecipkaaeRows
import Derived.ChangeMaps5
namespace Go.Proofs.Ytmbbkabecipkaae.NamesWords
open Go.ChangeShapes Go.WideShapes Go.ChangeAt Go.RowKit Go.Joins Trees Forms UnitCheck NWords

theorem walk (u : UnitD) (w : World) (hu : UnitLies w u) :
    Calls Try.prog 5 #[.agg #[.string u.name, .slice u.va u.vl u.vc, .slice u.aa u.al u.ac, .slice u.fa u.fl u.fc]] w fun e w' => e = .returned (.bool true) ∧ Below w.heap.size w w' := by
  have k10 : ∀ W, Below w.heap.size w W → _ := fun W hb => RefUnit.ref u W (UnitLies_below hb hu)
  have k11 : ∀ W, unitFault u = 0 → Below w.heap.size w W → _ := fun W h hb => words u W (UnitLies_below hb hu) (sized h).1 (sized h).2.1 (sized h).2.2
  have k12 : ∀ W, unitFault u = 0 → Below w.heap.size w W → _ := fun W h hb => unitWords u W (UnitLies_below hb hu) (sized h).1 (sized h).2.1 (sized h).2.2
  generalize unitFault u = r at k10 k11 k12
  generalize (u.vl : Int) + sizes u.az u.al = n at k11 k12
  clear hu
  obtain ⟨name, va, vl, vc, vs, aa, al, ac, an, az, fa, fl, fc, fs⟩ := u
  dsimp only at k10 k11 k12 ⊢
  have hb0 := below1 w (.cells #[.string name, .slice va vl vc, .slice aa al ac, .slice fa fl fc] 29)
  by_cases hr : r = 0
  · subst hr
    have l11 := fun W => k11 W rfl
    have l12 := fun W => k12 W rfl
    have K10 : Hid _ := k10
    have K11 : Hid _ := l11
    have K12 : Hid _ := l12
    clear k10 k11 k12 l11 l12
    go_enter Try.func5, Try.ntmps5
    go_wp2_with (first
      | (go_at_call 10; refine (K10.out _ hb0).mono ?_; rintro e w1 ⟨rfl, hb1⟩; obtain ⟨q0, q1, q2, q3⟩ := box4 hb1; have hb2 := hb0.trans (hb1.mono hb0.size); have z1 := hb1)
      | (go_at_call 11; refine (K11.out _ hb2).mono ?_; rintro e w2 ⟨rfl, hb3⟩; have hb4 := hb2.trans (hb3.mono hb2.size); clear q0 q1 q2 q3; obtain ⟨q0, q1, q2, q3⟩ := box4 (z1.trans (hb3.mono z1.size)); clear z1)
      | (go_at_call 12; refine (K12.out _ hb4).mono ?_; rintro e w3 ⟨rfl, hb5⟩; have hb6 := hb4.trans (hb5.mono hb4.size)))
    go_ret
    exact ⟨rfl, hb6⟩
  · have hr2 : (r == 0) = false := beq_eq_false_iff_ne.2 hr
    have K10 : Hid _ := k10
    clear k10 k11 k12 hr
    go_enter Try.func5, Try.ntmps5
    go_wp2_with (go_at_call 10; refine (K10.out _ hb0).mono ?_; rintro e w1 ⟨rfl, hb1⟩; have hb2 := hb0.trans (hb1.mono hb0.size))
    go_ret
    exact ⟨rfl, hb2⟩

set_option maxRecDepth 100000 in
theorem lifted (os : Os) (started : os.Started) (H : Type) (enc : TypeId × Value → H) :
    ReturnsInHanded {} Try.checked os 5 .any (Rows.namesWordsSpec.pre6 enc Try.prog Try.f5 Rows.namesWordsRow.domain false) (Rows.namesWordsSpec.post enc Try.prog Try.f5 false true false false) := by
  refine returnsInHanded_of_change (C := Try.checked) Opened.own started (by kernel_rfl) Try.func5
    (ChangeSpec.witness6 (enc := enc) (C := Try.checked) false ⟨#[], #[.agg #[.string ⟨#[97]⟩, .slice none 0 0, .slice none 0 0, .slice none 0 0]], []⟩ 8 (by kernel_rfl) (by kernel_rfl) (by kernel_rfl) (by kernel_rfl)) ?_
  intro W base args ds gs before hval0 hW hcnd _
  have hval : ∀ (j : Nat) t v, Try.f5.params[j]? = some t → args[j]? = some v → Value.okWide Try.prog W .any base t v := hval0
  have hW' := hW
  obtain ⟨p, q, hA0, hV, rfl, hfz, hnd⟩ := hW
  have hA : DataW.TrodAll enc Try.prog W 0 (fun _ => true) true Try.f5.params.toList args.toList ds p := hA0
  rw [Try.params5] at hA hval
  obtain ⟨v0, vs0, d0, ds0, p0, q0, hargs, rfl, rfl, h0, r0⟩ := trodAll_cons hA
  obtain ⟨rfl, rfl, rfl⟩ := trodAll_nil r0
  obtain rfl : args = #[v0] := by cases args; simp_all
  obtain ⟨rfl, rfl⟩ := trodVars_none hV
  obtain ⟨fuel0, hf0⟩ := id h0
  obtain ⟨u, rfl, hu⟩ := Opened.unit (hval 0 29 v0 rfl rfl) h0
  clear hA0 hval0
  simp only [List.append_nil] at hW'
  refine (walk u W hu).mono fun e W' ⟨he, hb⟩ => ?_
  subst he
  exact ⟨_, rfl, _, _, _, [], _, [], hW', trodAll_mk1 (shut_bool Try.underlying4 _), (trodAll_cons_mk (Below.trod Opened.laidOut (by kernel_rfl) (of_decide_eq_true (by kernel_rfl)) h0 hb (DataW.trod_lt fuel0 _ _ _ hf0)) trodAll_mk0), rfl, hb.frame _, fun h => by cases h⟩

theorem over : Rows.namesWordsRow.holds Try.pinned (OpenSpec.ofChange Rows.namesWordsSpec) :=
  OpenClaim.holds_of_wide 5 Try.f5 rfl rfl rfl rfl rfl rfl rfl ⟨rfl, rfl, rfl, rfl, rfl⟩ rfl rfl rfl rfl rfl (by kernel_rfl) Try.func5 (by kernel_rfl)
    (of_decide_eq_true (by kernel_rfl)) (by unfold Func.isWrapper; first | (rw [if_pos (by decide +kernel)]; kernel_rfl) | (rw [if_neg (by decide +kernel)]; exact ⟨rfl, rfl⟩))
    (fun os started H enc _ => lifted os started H enc)
end Go.Proofs.Ytmbbkabecipkaae.NamesWords
namespace Go.Proofs.Ytmbbkabecipkaae
/-- THE STATEMENT -/
theorem namesWords_holds : Rows.NamesWordsSaid := NamesWords.over
#print axioms namesWords_holds
end Go.Proofs.Ytmbbkabecipkaae
