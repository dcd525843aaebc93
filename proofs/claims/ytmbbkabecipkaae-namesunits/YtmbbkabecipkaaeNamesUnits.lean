/-
  THE LAW 'barbicanlaw.NamesUnits' IS TRUE AT EVERY INPUT: names.Unit answers what the document says of it (P7.1), for every list of units and every text; the call returns true and all arguments read as they did.
  Conditions: none beyond the row's own.
-/
import Derived.Test.YtmbbkabecipkaaeNOpen
import Derived.Test.YtmbbkabecipkaaeRows
import Derived.ChangeMaps5
namespace Go.Proofs.Ytmbbkabecipkaae.NamesUnits
open Go.ChangeShapes Go.WideShapes Go.ChangeAt Go.RowKit Go.Joins NUnits NPlace
open Go.ChangeMaps (open_string shut_string)

theorem walk (ao : Option Addr) (len cap : Nat) (z : Nat → ByteArray) (hl : len ≤ maxLen) (s : ByteArray) (w : World) (h : Heads w ao len z) :
    Calls Try.prog 3 #[.slice ao len cap, .string s] w fun e w' => e = .returned (.bool true) ∧ Below w.heap.size w w' := by
  have ku : ∀ W, Below w.heap.size w W → _ := fun W hb => unit W len cap ao z s hl (Heads_below hb h)
  have ka : ∀ W, Below w.heap.size w W → _ := fun W hb => unitAt W len cap ao z s hl (Heads_below hb h)
  generalize placeFrom z s 0 len = r at ku ka
  have KU : Hid _ := ku
  have KA : Hid _ := ka
  clear h hl ku ka
  go_enter Try.func3, Try.ntmps3
  go_wp2_with (first
    | (go_at_call 6; refine (KU.out _ (by exact Below.refl _ _)).mono ?_; rintro e w1 ⟨rfl, hb1⟩; have HB1 : Hid _ := hb1; clear hb1)
    | (go_at_call 7; refine (KA.out _ HB1.out).mono ?_; rintro e w2 ⟨rfl, hb2⟩; have HB2 : Hid _ := hb2; clear hb2))
  go_ret
  exact ⟨rfl, HB1.out.trans (HB2.out.mono HB1.out.size)⟩

set_option maxRecDepth 100000 in
theorem lifted (os : Os) (started : os.Started) (H : Type) (enc : TypeId × Value → H) :
    ReturnsInHanded {} Try.checked os 3 .any (Rows.namesUnitsSpec.pre6 enc Try.prog Try.f3 Rows.namesUnitsRow.domain false) (Rows.namesUnitsSpec.post enc Try.prog Try.f3 false true false false) := by
  refine returnsInHanded_of_change (C := Try.checked) NOpen.own started (by kernel_rfl) Try.func3
    (ChangeSpec.witness6 (enc := enc) (C := Try.checked) false ⟨#[], #[.slice none 0 0, .string ⟨#[97]⟩], []⟩ 8 (by kernel_rfl) (by kernel_rfl) (by kernel_rfl) (by kernel_rfl)) ?_
  intro W base args ds gs before hval0 hW hcnd _
  have hval : ∀ (j : Nat) t v, Try.f3.params[j]? = some t → args[j]? = some v → Value.okWide Try.prog W .any base t v := hval0
  have hW' := hW
  obtain ⟨p, q, hA0, hV, rfl, hfz, hnd⟩ := hW
  have hA : DataW.TrodAll enc Try.prog W 0 (fun _ => true) true Try.f3.params.toList args.toList ds p := hA0
  rw [Try.params3] at hA hval
  obtain ⟨v0, vs0, d0, ds0, p0, q0, hargs, rfl, rfl, h0, r0⟩ := trodAll_cons hA
  obtain ⟨v1, vs1, d1, ds1, p1, q1, rfl, rfl, rfl, h1, r1⟩ := trodAll_cons r0
  obtain ⟨rfl, rfl, rfl⟩ := trodAll_nil r1
  obtain rfl : args = #[v0, v1] := by cases args; simp_all
  obtain ⟨rfl, rfl⟩ := trodVars_none hV
  obtain ⟨fuel0, hf0⟩ := id h0
  obtain ⟨ua, ul, uc, rfl⟩ := okWide_slice Try.underlying22 (hval 0 22 v0 rfl rfl)
  obtain ⟨ao, len, cap, z, hcs, hl, hz⟩ := NOpen.units hf0
  obtain ⟨rfl, rfl, rfl⟩ : ua = ao ∧ ul = len ∧ uc = cap := by simpa [Value.cells] using hcs
  obtain ⟨s, rfl, rfl, rfl, hs⟩ := open_string Try.underlying9 (hval 1 9 v1 rfl rfl) h1
  clear hA0 hval0
  simp only [List.append_nil] at hW'
  refine (walk ua ul uc z hl s W hz).mono fun e W' ⟨he, hb⟩ => ?_
  subst he
  exact ⟨_, rfl, _, _, _, [], _, [], hW', trodAll_mk1 (shut_bool Try.underlying4 _), (trodAll_cons_mk (Below.trod NOpen.laidOut (by kernel_rfl) (of_decide_eq_true (by kernel_rfl)) h0 hb (DataW.trod_lt fuel0 _ _ _ hf0)) (trodAll_cons_mk (shut_string Try.underlying9 hs) trodAll_mk0)), rfl, hb.frame _, fun h => by cases h⟩

theorem over : Rows.namesUnitsRow.holds Try.pinned (OpenSpec.ofChange Rows.namesUnitsSpec) :=
  OpenClaim.holds_of_wide 3 Try.f3 rfl rfl rfl rfl rfl rfl rfl ⟨rfl, rfl, rfl, rfl, rfl⟩ rfl rfl rfl rfl rfl (by kernel_rfl) Try.func3 (by kernel_rfl)
    (of_decide_eq_true (by kernel_rfl)) (by unfold Func.isWrapper; first | (rw [if_pos (by decide +kernel)]; kernel_rfl) | (rw [if_neg (by decide +kernel)]; exact ⟨rfl, rfl⟩))
    (fun os started H enc _ => lifted os started H enc)
end Go.Proofs.Ytmbbkabecipkaae.NamesUnits
namespace Go.Proofs.Ytmbbkabecipkaae
/-- THE STATEMENT -/
theorem namesUnits_holds : Rows.NamesUnitsSaid := NamesUnits.over
#print axioms namesUnits_holds
end Go.Proofs.Ytmbbkabecipkaae
