/-
  THE LAW 'barbicanlaw.EvalCopies' IS TRUE AT EVERY INPUT: eval.Copy gives the same cells (P8.1), for every list of cells; the call returns true and all arguments read as they did.
  Conditions: none beyond the row's own.
-/
import Derived.Test.YtalnfnkpemojhaaECopy
import Derived.Test.YtalnfnkpemojhaaEOpen
import Derived.Test.YtalnfnkpemojhaaRows
import Derived.ChangeMaps5
namespace Go.Proofs.Ytalnfnkpemojhaa.EvalCopies
open Go.ChangeShapes Go.WideShapes Go.ChangeAt Go.RowKit Go.Joins ECells

theorem own : ownKnob Try.prog.godebug = none := by kernel_rfl
theorem laidOut : laidOutB Try.prog = true := by kernel_rfl

theorem walk (la : Option Addr) (n lcap : Nat) (C : Nat → CellD) (hn : n ≤ maxLen) (h48 : n * 48 ≤ reachBytes) (hs : EOpen.Sized n C) (w : World) (hC : CRow w la n C) :
    Calls Try.prog 5 #[.slice la n lcap] w fun e w' => e = .returned (.bool true) ∧ Below w.heap.size w w' := by
  have kc : ∀ W, Below w.heap.size w W → _ := fun W hb => ECopy.copy W la n lcap C h48 hs (CRow_below hb hC)
  have ks : ∀ W q, CRow W q n C → Below w.heap.size w W → _ := fun W q h hb => sameCells W q la n n lcap C hn h (CRow_below hb hC)
  have KC : Hid _ := kc
  have KS : Hid _ := ks
  clear kc ks hC hn h48 hs
  go_enter Try.func5, Try.ntmps5
  go_wp2_with (first
    | (go_at_call 12; refine (KC.out _ (by exact Below.refl _ _)).mono ?_; rintro e w1 ⟨hb1, q, rfl, hc1⟩; have HB1 : Hid (Below w.heap.size w w1) := hb1; have C1 : Hid (CRow w1 q n C) := hc1; clear hb1 hc1)
    | (go_at_call 11; refine (KS.out _ _ C1.out HB1.out).mono ?_; rintro e w2 ⟨rfl, hb2⟩; have HB2 : Hid _ := hb2; clear hb2))
  go_ret
  exact ⟨rfl, HB1.out.trans (HB2.out.mono HB1.out.size)⟩


set_option maxRecDepth 100000 in
theorem lifted (os : Os) (started : os.Started) (H : Type) (enc : TypeId × Value → H) :
    ReturnsInHanded {} Try.checked os 5 .any (Rows.evalCopiesSpec.pre6 enc Try.prog Try.f5 Rows.evalCopiesRow.domain false) (Rows.evalCopiesSpec.post enc Try.prog Try.f5 false true false false) := by
  refine returnsInHanded_of_change_sized (C := Try.checked) own started (by kernel_rfl) Try.func5
    (ChangeSpec.witness6 (enc := enc) (C := Try.checked) false ⟨#[], #[.slice none 0 0], []⟩ 8 (by kernel_rfl) (by kernel_rfl) (by kernel_rfl) (by kernel_rfl)) ?_
  intro W base args ds gs before hval0 hW _ hsz0 _
  have hsz : (DataW.weightsEach Try.prog (Try.f5.params.toList ++ Rows.evalCopiesSpec.plain.varTypes Try.prog) (ds ++ gs)).all (· ≤ reachBytes) = true := hsz0
  have hval : ∀ (j : Nat) t v, Try.f5.params[j]? = some t → args[j]? = some v → Value.okWide Try.prog W .any base t v := hval0
  have hW' := hW
  obtain ⟨p, q, hA0, hV, rfl, hfz, hnd⟩ := hW
  have hA : DataW.TrodAll enc Try.prog W 0 (fun _ => true) true Try.f5.params.toList args.toList ds p := hA0
  rw [Try.params5] at hA hval
  obtain ⟨v0, vs0, d0, ds0, p0, q0, hargs, rfl, rfl, h0, r0⟩ := trodAll_cons hA
  obtain ⟨rfl, rfl, rfl⟩ := trodAll_nil r0
  obtain rfl : args = #[v0] := by cases args; simp_all
  obtain ⟨rfl, rfl⟩ := trodVars_none hV
  obtain ⟨fuel0, hf0⟩ := id h0
  obtain ⟨ca, cl, cc, rfl⟩ := okWide_slice Try.underlying26 (hval 0 26 v0 rfl rfl)
  obtain ⟨la, n, lcap, C, hcs1, hn, hC, hw⟩ := EOpen.cells hf0
  obtain ⟨rfl, rfl, rfl⟩ : ca = la ∧ cl = n ∧ cc = lcap := by simpa [Value.cells] using hcs1
  obtain ⟨h48, hsd⟩ := hw fun m hm => by
    have := List.all_eq_true.1 hsz m (DataW.weights_mem_each (j := 0) rfl rfl m hm)
    simpa using this
  clear hA0 hval0
  simp only [List.append_nil] at hW'
  refine (walk ca cl cc C hn h48 hsd W hC).mono fun e W' ⟨he, hb⟩ => ?_
  subst he
  exact ⟨_, rfl, _, _, _, [], _, [], hW', trodAll_mk1 (shut_bool Try.underlying4 _), (trodAll_cons_mk (Below.trod laidOut (by kernel_rfl) (of_decide_eq_true (by kernel_rfl)) h0 hb (DataW.trod_lt fuel0 _ _ _ hf0)) trodAll_mk0), rfl, hb.frame _, fun h => by cases h⟩

theorem over : Rows.evalCopiesRow.holds Try.pinned (OpenSpec.ofChange Rows.evalCopiesSpec) :=
  OpenClaim.holds_of_wide 5 Try.f5 rfl rfl rfl rfl rfl rfl rfl ⟨rfl, rfl, rfl, rfl, rfl⟩ rfl rfl rfl rfl rfl (by kernel_rfl) Try.func5 (by kernel_rfl)
    (of_decide_eq_true (by kernel_rfl)) (by unfold Func.isWrapper; first | (rw [if_pos (by decide +kernel)]; kernel_rfl) | (rw [if_neg (by decide +kernel)]; exact ⟨rfl, rfl⟩))
    (fun os started H enc _ => lifted os started H enc)
end Go.Proofs.Ytalnfnkpemojhaa.EvalCopies
namespace Go.Proofs.Ytalnfnkpemojhaa
/-- THE STATEMENT -/
theorem evalCopies_holds : Rows.EvalCopiesSaid := EvalCopies.over
#print axioms evalCopies_holds
end Go.Proofs.Ytalnfnkpemojhaa
