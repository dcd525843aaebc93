/-
  THE LAW 'barbicanlaw.EvalFresh' IS TRUE AT EVERY INPUT: eval.Fresh answers what the document says of it (P8.1), for every list of units; the call returns true and the argument reads as it did.
  Conditions: none beyond the row's own.
-/
import Derived.Test.YtalnfnkpemojhaaQTop
import Derived.Test.YtalnfnkpemojhaaEFreshRef
import Derived.Test.YtalnfnkpemojhaaRows
import Derived.ChangeMaps5
namespace Go.Proofs.Ytalnfnkpemojhaa.EvalFresh
open Go.ChangeShapes Go.WideShapes Go.ChangeAt Go.RowKit Go.Joins Trees NSense ECells EFresh

theorem walk (ao : Option Addr) (len cap : Nat) (U : Nat → UnitD) (hl : len ≤ maxLen) (w : World) (hU : URow w ao len U) (hro : ∀ i, i < len → NUOpen.Roomy (U i).fl (U i).fs) :
    Calls Try.prog 4 #[.slice ao len cap] w fun e w' => e = .returned (.bool true) ∧ Below w.heap.size w w' := by
  have kc : ∀ W, Below w.heap.size w W → _ := fun W hb => EFresh.fresh W len cap ao U hl (URow_below hb hU)
  have kr : ∀ W, Below w.heap.size w W → _ := fun W hb => EFreshRef.freshRef W len cap ao U hl (URow_below hb hU) hro
  have nil : ∀ (W : World) (C : Nat → CellD), CRow W none 0 C := fun W C i hi => absurd hi (by omega)
  obtain ⟨r, N, C, hN, kc', kr'⟩ : ∃ (r : Int) (N : Nat) (C : Nat → CellD), N ≤ maxLen ∧
      (∀ W, Below w.heap.size w W → Calls Try.prog 9 #[.slice ao len cap] W fun e w' => Below W.heap.size W w' ∧ ∃ q c, e = .returned (.tuple #[.slice q N c, .int .i64 r]) ∧ CRow w' q N C) ∧
      (∀ W, Below w.heap.size w W → Calls Try.prog 10 #[.slice ao len cap] W fun e w' => Below W.heap.size W w' ∧ ∃ q c, e = .returned (.tuple #[.slice q N c, .int .i64 r]) ∧ CRow w' q N C) := by
    by_cases h : programFault len U = 0
    · refine ⟨0, len, freshC U, hl, fun W hb => (kc W hb).mono fun e w' ⟨h1, h2⟩ => ⟨h1, ?_⟩, fun W hb => (kr W hb).mono fun e w' ⟨h1, h2⟩ => ⟨h1, ?_⟩⟩
      · rcases h2 with ⟨h3, _⟩ | ⟨_, q, he, hc⟩
        · exact absurd h h3
        · exact ⟨q, _, he, hc⟩
      · rcases h2 with ⟨h3, _⟩ | ⟨_, q, c, he, hc⟩
        · exact absurd h h3
        · exact ⟨q, c, he, hc⟩
    · refine ⟨programFault len U, 0, freshC U, Nat.zero_le _, fun W hb => (kc W hb).mono fun e w' ⟨h1, h2⟩ => ⟨h1, ?_⟩, fun W hb => (kr W hb).mono fun e w' ⟨h1, h2⟩ => ⟨h1, ?_⟩⟩
      · rcases h2 with ⟨_, he⟩ | ⟨h3, _⟩
        · exact ⟨none, 0, he, nil _ _⟩
        · exact absurd h3 h
      · rcases h2 with ⟨_, he⟩ | ⟨h3, _⟩
        · exact ⟨none, 0, he, nil _ _⟩
        · exact absurd h3 h
  have ks : ∀ W a b ca cb, CRow W a N C → CRow W b N C → _ := fun W a b ca cb h h' => sameCells W a b N ca cb C hN h h'
  have KC : Hid _ := kc'
  have KR : Hid _ := kr'
  have KS : Hid _ := ks
  clear hU hl hro kc kr kc' kr' ks nil hN
  go_enter Try.func4, Try.ntmps4
  go_wp2_with (first
    | (go_at_call 9; refine (KC.out _ (by exact Below.refl _ _)).mono ?_; rintro e w1 ⟨hb1, q1, c1, rfl, hc1⟩; have HB1 : Hid (Below w.heap.size w w1) := hb1; have C1 : Hid (CRow w1 q1 N C) := hc1; clear hb1 hc1)
    | (go_at_call 10; refine (KR.out _ HB1.out).mono ?_; rintro e w2 ⟨hb2, q2, c2, rfl, hc2⟩; have HB2 : Hid (Below w1.heap.size w1 w2) := hb2; have C2 : Hid (CRow w2 q2 N C) := hc2; clear hb2 hc2)
    | (go_at_call 11; refine (KS.out _ _ _ _ _ (CRow_below HB2.out C1.out) C2.out).mono ?_; rintro e w3 ⟨rfl, hb3⟩; have HB3 : Hid _ := hb3; clear hb3))
  go_ret
  exact ⟨rfl, (HB1.out.trans (HB2.out.mono HB1.out.size)).trans (HB3.out.mono (HB1.out.trans (HB2.out.mono HB1.out.size)).size)⟩

set_option maxRecDepth 100000 in
theorem lifted (os : Os) (started : os.Started) (H : Type) (enc : TypeId × Value → H) :
    ReturnsInHanded {} Try.checked os 4 .any (Rows.evalFreshSpec.pre6 enc Try.prog Try.f4 Rows.evalFreshRow.domain false) (Rows.evalFreshSpec.post enc Try.prog Try.f4 false true false false) := by
  refine returnsInHanded_of_change (C := Try.checked) Opened.own started (by kernel_rfl) Try.func4
    (ChangeSpec.witness6 (enc := enc) (C := Try.checked) false ⟨#[], #[.slice none 0 0], []⟩ 8 (by kernel_rfl) (by kernel_rfl) (by kernel_rfl) (by kernel_rfl)) ?_
  intro W base args ds gs before hval0 hW hcnd _
  have hval : ∀ (j : Nat) t v, Try.f4.params[j]? = some t → args[j]? = some v → Value.okWide Try.prog W .any base t v := hval0
  have hW' := hW
  obtain ⟨p, q, hA0, hV, rfl, hfz, hnd⟩ := hW
  have hA : DataW.TrodAll enc Try.prog W 0 (fun _ => true) true Try.f4.params.toList args.toList ds p := hA0
  rw [Try.params4] at hA hval
  obtain ⟨v0, vs0, d0, ds0, p0, q0, hargs, rfl, rfl, h0, r0⟩ := trodAll_cons hA
  obtain ⟨rfl, rfl, rfl⟩ := trodAll_nil r0
  obtain rfl : args = #[v0] := by cases args; simp_all
  obtain ⟨rfl, rfl⟩ := trodVars_none hV
  obtain ⟨fuel0, hf0⟩ := id h0
  obtain ⟨ua, ul, uc, rfl⟩ := okWide_slice Try.underlying22 (hval 0 22 v0 rfl rfl)
  obtain ⟨ao, len, cap, U, hcs, hl, hU, hro⟩ := NUOpen.units hf0
  obtain ⟨rfl, rfl, rfl⟩ : ua = ao ∧ ul = len ∧ uc = cap := by simpa [Value.cells] using hcs
  clear hA0 hval0
  simp only [List.append_nil] at hW'
  refine (walk ua ul uc U hl W hU hro).mono fun e W' ⟨he, hb⟩ => ?_
  subst he
  exact ⟨_, rfl, _, _, _, [], _, [], hW', trodAll_mk1 (shut_bool Try.underlying4 _), (trodAll_cons_mk (Below.trod Opened.laidOut (by kernel_rfl) (of_decide_eq_true (by kernel_rfl)) h0 hb (DataW.trod_lt fuel0 _ _ _ hf0)) trodAll_mk0), rfl, hb.frame _, fun h => by cases h⟩

theorem over : Rows.evalFreshRow.holds Try.pinned (OpenSpec.ofChange Rows.evalFreshSpec) :=
  OpenClaim.holds_of_wide 4 Try.f4 rfl rfl rfl rfl rfl rfl rfl ⟨rfl, rfl, rfl, rfl, rfl⟩ rfl rfl rfl rfl rfl (by kernel_rfl) Try.func4 (by kernel_rfl)
    (of_decide_eq_true (by kernel_rfl)) (by unfold Func.isWrapper; first | (rw [if_pos (by decide +kernel)]; kernel_rfl) | (rw [if_neg (by decide +kernel)]; exact ⟨rfl, rfl⟩))
    (fun os started H enc _ => lifted os started H enc)
end Go.Proofs.Ytalnfnkpemojhaa.EvalFresh
namespace Go.Proofs.Ytalnfnkpemojhaa
/-- THE STATEMENT -/
theorem evalFresh_holds : Rows.EvalFreshSaid := EvalFresh.over
#print axioms evalFresh_holds
end Go.Proofs.Ytalnfnkpemojhaa
