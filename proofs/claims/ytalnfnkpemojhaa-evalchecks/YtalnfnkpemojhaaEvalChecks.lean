/-
  THE LAW 'barbicanlaw.EvalChecks' IS TRUE AT EVERY INPUT: eval.CheckStores answers what the document says of it (P8.1), for every list of units and every list of cells; the call returns true and all arguments read as they did.
  Conditions: none beyond the row's own.
-/
import Derived.Test.YtalnfnkpemojhaaQTop
import Derived.Test.YtalnfnkpemojhaaECheckS
import Derived.Test.YtalnfnkpemojhaaECellsF
import Derived.Test.YtalnfnkpemojhaaEOpen
import Derived.Test.YtalnfnkpemojhaaRows
import Derived.ChangeMaps5
namespace Go.Proofs.Ytalnfnkpemojhaa.EvalChecks
open Go.ChangeShapes Go.WideShapes Go.ChangeAt Go.RowKit Go.Joins Trees NSense ECells

theorem walk (ao : Option Addr) (len cap : Nat) (U : Nat → UnitD) (la : Option Addr) (n lcap : Nat) (C : Nat → CellD) (hl : len ≤ maxLen) (hn : n ≤ maxLen) (w : World) (hU : URow w ao len U) (hro : ∀ i, i < len → NUOpen.Roomy (U i).fl (U i).fs) (hC : CRow w la n C) :
    Calls Try.prog 6 #[.slice ao len cap, .slice la n lcap] w fun e w' => e = .returned (.bool true) ∧ Below w.heap.size w w' := by
  have kc : ∀ W, Below w.heap.size w W → _ := fun W hb => ECheckS.checkStores W len cap ao U n lcap la C hl hn (URow_below hb hU) (CRow_below hb hC)
  have kr : ∀ W, Below w.heap.size w W → _ := fun W hb => ECellsF.cellsFault W len cap ao U n lcap la C hl hn (URow_below hb hU) (CRow_below hb hC) hro
  generalize EFault.cellsFault len U n C = r at kc kr
  have KC : Hid _ := kc
  have KR : Hid _ := kr
  clear hU hl hn hro hC kc kr
  go_enter Try.func6, Try.ntmps6
  go_wp2_with (first
    | (go_at_call 13; refine (KC.out _ (by exact Below.refl _ _)).mono ?_; rintro e w1 ⟨rfl, hb1⟩; have HB1 : Hid _ := hb1; clear hb1)
    | (go_at_call 14; refine (KR.out _ HB1.out).mono ?_; rintro e w2 ⟨rfl, hb2⟩; have HB2 : Hid _ := hb2; clear hb2))
  go_ret
  exact ⟨rfl, HB1.out.trans (HB2.out.mono HB1.out.size)⟩


set_option maxRecDepth 100000 in
theorem lifted (os : Os) (started : os.Started) (H : Type) (enc : TypeId × Value → H) :
    ReturnsInHanded {} Try.checked os 6 .any (Rows.evalChecksSpec.pre6 enc Try.prog Try.f6 Rows.evalChecksRow.domain false) (Rows.evalChecksSpec.post enc Try.prog Try.f6 false true false false) := by
  refine returnsInHanded_of_change (C := Try.checked) Opened.own started (by kernel_rfl) Try.func6
    (ChangeSpec.witness6 (enc := enc) (C := Try.checked) false ⟨#[], #[.slice none 0 0, .slice none 0 0], []⟩ 8 (by kernel_rfl) (by kernel_rfl) (by kernel_rfl) (by kernel_rfl)) ?_
  intro W base args ds gs before hval0 hW hcnd _
  have hval : ∀ (j : Nat) t v, Try.f6.params[j]? = some t → args[j]? = some v → Value.okWide Try.prog W .any base t v := hval0
  have hW' := hW
  obtain ⟨p, q, hA0, hV, rfl, hfz, hnd⟩ := hW
  have hA : DataW.TrodAll enc Try.prog W 0 (fun _ => true) true Try.f6.params.toList args.toList ds p := hA0
  rw [Try.params6] at hA hval
  obtain ⟨v0, vs0, d0, ds0, p0, q0, hargs, rfl, rfl, h0, r0⟩ := trodAll_cons hA
  obtain ⟨v1, vs1, d1, ds1, p1, q1, rfl, rfl, rfl, h1, r1⟩ := trodAll_cons r0
  obtain ⟨rfl, rfl, rfl⟩ := trodAll_nil r1
  obtain rfl : args = #[v0, v1] := by cases args; simp_all
  obtain ⟨rfl, rfl⟩ := trodVars_none hV
  obtain ⟨fuel0, hf0⟩ := id h0
  obtain ⟨ua, ul, uc, rfl⟩ := okWide_slice Try.underlying22 (hval 0 22 v0 rfl rfl)
  obtain ⟨ao, len, cap, U, hcs, hl, hU, hro⟩ := NUOpen.units hf0
  obtain ⟨rfl, rfl, rfl⟩ : ua = ao ∧ ul = len ∧ uc = cap := by simpa [Value.cells] using hcs
  obtain ⟨fuel1, hf1⟩ := id h1
  obtain ⟨ca, cl, cc, rfl⟩ := okWide_slice Try.underlying26 (hval 1 26 v1 rfl rfl)
  obtain ⟨la, n, lcap, C, hcs1, hn, hC, _⟩ := EOpen.cells hf1
  obtain ⟨rfl, rfl, rfl⟩ : ca = la ∧ cl = n ∧ cc = lcap := by simpa [Value.cells] using hcs1
  clear hA0 hval0
  simp only [List.append_nil] at hW'
  refine (walk ua ul uc U ca cl cc C hl hn W hU hro hC).mono fun e W' ⟨he, hb⟩ => ?_
  subst he
  exact ⟨_, rfl, _, _, _, [], _, [], hW', trodAll_mk1 (shut_bool Try.underlying4 _), (trodAll_cons_mk (Below.trod Opened.laidOut (by kernel_rfl) (of_decide_eq_true (by kernel_rfl)) h0 hb (DataW.trod_lt fuel0 _ _ _ hf0)) (trodAll_cons_mk (Below.trod Opened.laidOut (by kernel_rfl) (of_decide_eq_true (by kernel_rfl)) h1 hb (DataW.trod_lt fuel1 _ _ _ hf1)) trodAll_mk0)), rfl, hb.frame _, fun h => by cases h⟩

theorem over : Rows.evalChecksRow.holds Try.pinned (OpenSpec.ofChange Rows.evalChecksSpec) :=
  OpenClaim.holds_of_wide 6 Try.f6 rfl rfl rfl rfl rfl rfl rfl ⟨rfl, rfl, rfl, rfl, rfl⟩ rfl rfl rfl rfl rfl (by kernel_rfl) Try.func6 (by kernel_rfl)
    (of_decide_eq_true (by kernel_rfl)) (by unfold Func.isWrapper; first | (rw [if_pos (by decide +kernel)]; kernel_rfl) | (rw [if_neg (by decide +kernel)]; exact ⟨rfl, rfl⟩))
    (fun os started H enc _ => lifted os started H enc)
end Go.Proofs.Ytalnfnkpemojhaa.EvalChecks
namespace Go.Proofs.Ytalnfnkpemojhaa
/-- THE STATEMENT -/
theorem evalChecks_holds : Rows.EvalChecksSaid := EvalChecks.over
#print axioms evalChecks_holds
end Go.Proofs.Ytalnfnkpemojhaa
