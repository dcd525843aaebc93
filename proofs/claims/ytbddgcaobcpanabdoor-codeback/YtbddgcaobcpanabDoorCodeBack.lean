/-
  THE LAW 'barbicankeep.CodeBack' IS TRUE AT EVERY INPUT: code that is made of whatever raw things is read as it was written, and what is no code is refused; the call returns true and the arguments read as they did.
  Conditions: none beyond the row's own (the table 'code.bounds' reads as its initialiser lays it: the card ties that to the program's text).
-/
import Derived.Test.YtbddgcaobcpanabDoorCode
import Derived.Test.YtbddgcaobcpanabDoorBack
import Derived.Test.YtbddgcaobcpanabDoorCards
import Derived.Test.YtbddgcaobcpanabDoorTie
import Derived.Stop.Joined
import Derived.Deep.Slices
namespace Go.Proofs.YtbddgcaobcpanabDoor.CodeBack
open Go.ChangeShapes Go.WideShapes Go.ChangeAt Go.RowKit Go.Joins Tab Go.Proofs.YtbddgcaobcpanabDoor.Check Lists Go.Proofs.YtbddgcaobcpanabDoor.Good

theorem own : ownKnob Tryd.prog.godebug = none := by kernel_rfl
theorem cells41 : Tryd.prog.cellsOf 41 = 4 := by kernel_rfl

/-- A LIST OF RAW THINGS, OPENED: each of its four numbers lies where it is looked for. -/
theorem open_raws {H : Type} {enc : TypeId × Value → H} {W : World} {spare : Nat → Bool} {held : Bool} {fuel : Nat} {cs : List Value} {x : DataW H × List MemPlace}
    (h : DataW.trod enc Tryd.prog W 0 spare held fuel 22 cs = some x) :
    ∃ (ao : Option Addr) (len cap : Nat) (q : Nat → Q), cs = [.slice ao len cap] ∧ len ≤ 9223372036854775807 ∧ Raws W ao len q := by
  rcases Go.Deep.open_slice Tryd.underlying22 h with ⟨rfl, _⟩ | ⟨ad, len, cap, m, n, D, Pl, rfl, _, hle, hmax, hm, _, hel⟩
  · exact ⟨none, 0, 0, fun _ => (0, 0, 0, 0), rfl, by omega, fun k hk => absurd hk (by omega)⟩
  · have cut : ∀ (l : List Value) (j : Nat) (v : Value), (l.drop j).take 1 = [v] → l[j]? = some v := by
      intro l j v hl
      have := congrArg (·[0]?) hl
      simpa [List.getElem?_drop] using this
    have look : ∀ i, i < len → ∃ q : Q, (W.cell? (ad.add (i * 4 + 0)) = some (.int .i64 q.1) ∧ W.cell? (ad.add (i * 4 + 1)) = some (.int .i64 q.2.1) ∧
        W.cell? (ad.add (i * 4 + 2)) = some (.int .i64 q.2.2.1) ∧ W.cell? (ad.add (i * 4 + 3)) = some (.int .i64 q.2.2.2)) ∧
        (Lit.int .i64 q.1).wf = true ∧ (Lit.int .i64 q.2.1).wf = true ∧ (Lit.int .i64 q.2.2.1).wf = true ∧ (Lit.int .i64 q.2.2.2).wf = true := by
      intro i hi
      obtain ⟨cs', h1, h2⟩ := hel i (by rw [hm]; split <;> omega)
      rw [cells41] at h1
      obtain ⟨_, hlen, hcell⟩ := World.cells?_some h1
      obtain ⟨y0, y1, y2, y3, n', hx, _, g0, g1, g2, g3⟩ := trod_struct4 Tryd.underlying41 h2
      obtain ⟨z0, a0, _, f0⟩ := DataW.trod_int Tryd.underlying3 g0
      obtain ⟨z1, a1, _, f1⟩ := DataW.trod_int Tryd.underlying3 g1
      obtain ⟨z2, a2, _, f2⟩ := DataW.trod_int Tryd.underlying3 g2
      obtain ⟨z3, a3, _, f3⟩ := DataW.trod_int Tryd.underlying3 g3
      simp only [cells3] at a0 a1 a2 a3
      have k0 := hcell 0 (by omega)
      have k1 := hcell 1 (by omega)
      have k2 := hcell 2 (by omega)
      have k3 := hcell 3 (by omega)
      rw [Go.Deep.add_add] at k0 k1 k2 k3
      exact ⟨(z0, z1, z2, z3), ⟨k0.trans (cut _ _ _ a0), k1.trans (cut _ _ _ a1), k2.trans (cut _ _ _ a2), k3.trans (cut _ _ _ a3)⟩, f0, f1, f2, f3⟩
    obtain ⟨q, hq⟩ := Go.Deep.choose_lt look
    refine ⟨some ad, len, cap, q, rfl, by unfold maxLen at hmax; omega, fun k hk => ?_⟩
    obtain ⟨⟨t0, _⟩, _⟩ := hq 0 (by omega)
    obtain ⟨bl, off, spot⟩ := ad
    have hspot : spot = none := by simpa [Addr.add] using World.cell?_spot t0
    subst hspot
    obtain ⟨⟨u0, u1, u2, u3⟩, f⟩ := hq k hk
    rw [Go.WideShapes.add_plain] at u0 u1 u2 u3
    exact ⟨⟨bl, off, rfl, u0, u1, u2, u3⟩, f⟩

theorem laidOut : laidOutB Tryd.prog = true := by kernel_rfl

set_option maxRecDepth 100000 in
theorem lifted (os : Os) (started : os.Started) (H : Type) (enc : TypeId × Value → H) :
    ReturnsInHanded {} Tryd.checked os 3 .any (fun w args => (Rows.codeBackSpec.pre enc Tryd.prog Tryd.f3 [] false w args ∧ laidMetH Tryd.prog [("barbican/code.bounds", Rows.laid_barbican_code_bounds)] w) ∧ sizedMet enc Tryd.prog Tryd.f3 (OpenSpec.ofChange Rows.codeBackSpec) false w args)
      (Rows.codeBackSpec.post enc Tryd.prog Tryd.f3 false true false false) := by
  refine returnsInHanded_of_change_and (C := Tryd.checked) (X := fun w _ => laidMetH Tryd.prog [("barbican/code.bounds", Rows.laid_barbican_code_bounds)] w) (fun _ _ _ hh h => h.of_heap hh) own started (by kernel_rfl) Tryd.func3
    (ChangeSpec.witness_shaped (enc := enc) (C := Tryd.checked) (os := os) (X := fun w _ => laidMetH Tryd.prog [("barbican/code.bounds", Rows.laid_barbican_code_bounds)] w) false (World.doorLaid Tryd.prog 29 os) #[.slice none 0 0, .int .i64 0] 8 rfl (World.shaped_of_RefB (by kernel_rfl) (by kernel_rfl)) (by kernel_rfl) (by kernel_rfl) (by kernel_rfl)
      (laidMetH_of_parts3 (fuel := 8) (laidMet_of_run' 8 (by kernel_rfl) (by kernel_rfl)) (by kernel_rfl) (by kernel_rfl))) ?_
  intro W base args ds gs before hval0 hW _ _ hL _
  have hval : ∀ (j : Nat) t v, Tryd.f3.params[j]? = some t → args[j]? = some v → Value.okWide Tryd.prog W .any base t v := hval0
  have hW' := hW
  obtain ⟨p, q, hA0, hV, rfl, hfz, hnd⟩ := hW
  have hA : DataW.TrodAll enc Tryd.prog W 0 (fun _ => true) true Tryd.f3.params.toList args.toList ds p := hA0
  rw [Tryd.params3] at hA hval
  obtain ⟨v0, vs0, d0, ds0, p0, q0, hargs, rfl, rfl, h0, r0⟩ := trodAll_cons hA
  obtain ⟨v1, vs1, d1, ds1, p1, q1, rfl, rfl, rfl, h1, r1⟩ := trodAll_cons r0
  obtain ⟨rfl, rfl, rfl⟩ := trodAll_nil r1
  obtain rfl : args = #[v0, v1] := by cases args; simp_all
  obtain ⟨rfl, rfl⟩ := trodVars_none hV
  obtain ⟨fuel, hf⟩ := id h0
  obtain ⟨ao, len, cap, rfl⟩ := okWide_slice Tryd.underlying22 (hval 0 22 v0 rfl rfl)
  obtain ⟨ao', len', cap', x, hcs, hlen, hin⟩ := open_raws hf
  obtain ⟨rfl, rfl, rfl⟩ : ao = ao' ∧ len = len' ∧ cap = cap' := by simpa [Value.cells] using hcs
  obtain ⟨n, rfl, rfl, rfl, wn⟩ := open_int Tryd.underlying3 (hval 1 3 v1 rfl rfl) h1
  clear hA0 hval0
  simp only [List.append_nil] at hW'
  refine (Back.walk ao len cap W (lies hL) n wn (Code.code ao len cap hlen x W hin)).mono fun e W' ⟨he, hb⟩ => ?_
  subst he
  have hagain : DataW.TrodAll enc Tryd.prog W' 0 (fun b => decide (b < W.heap.size)) true [22, 3] [.slice ao len cap, .int .i64 n] [d0, .lit (.int .i64 n)] p0 := by
    have h := trodAll_mk2 (Below.trod laidOut (by kernel_rfl) (of_decide_eq_true (by kernel_rfl)) h0 hb (DataW.trod_lt fuel _ _ _ hf)) (shut_int Tryd.underlying3 wn)
    rwa [List.append_nil] at h
  exact ⟨_, rfl, _, _, _, [], p0, [], hW', trodAll_mk1 (shut_bool Tryd.underlying4 _), hagain, rfl, hb.frame _, fun h => by cases h⟩

theorem over : Rows.codeBackRow.holds Tryd.pinned (OpenSpec.ofChange Rows.codeBackSpec) :=
  OpenClaim.holds_of_wide 3 Tryd.f3 rfl rfl rfl rfl rfl rfl rfl ⟨rfl, rfl, rfl, rfl, rfl⟩ rfl rfl rfl rfl rfl (by kernel_rfl) Tryd.func3 (by kernel_rfl)
    (of_decide_eq_true (by kernel_rfl)) (by unfold Func.isWrapper; first | (rw [if_pos (by decide +kernel)]; kernel_rfl) | (rw [if_neg (by decide +kernel)]; exact ⟨rfl, rfl⟩))
    (fun os started H enc _ => lifted os started H enc)
end Go.Proofs.YtbddgcaobcpanabDoor.CodeBack
namespace Go.Proofs.YtbddgcaobcpanabDoor
/-- THE STATEMENT -/
theorem codeBack_holds : Rows.CodeBackCardSaid :=
  Claim7.holds_tied_plain_at .later [] [.data] true (true, "4a23365d88e2e11502933592daa6d90b388fa494252ea9fa22b02a4a39babbae") false
    CodeBack.over (fun _ h => by cases h) (by kernel_rfl) (fun _ h => by cases h) codeBack_row_tie rfl ⟨rfl, rfl⟩ (by kernel_rfl) rfl
    (fun f fn hf hfn => by
      obtain rfl : f = 3 := Option.some.inj ((show Tryd.prog.funcNamed "barbican/barbicankeep.CodeBack" = some 3 by kernel_rfl).symm.trans hf) |>.symm
      obtain rfl : fn = Tryd.f3 := (Option.some.inj (Tryd.func3.symm.trans hfn)).symm
      exact ⟨by kernel_rfl, fun j t ht => by
        rw [Tryd.params3] at ht
        have h3 : t = 22 ∨ t = 3 := by
          rcases j with _ | _ | j
          · exact .inl (by simpa using ht.symm)
          · exact .inr (by simpa using ht.symm)
          · simp at ht
        rcases h3 with rfl | rfl
        · exact (show Tryd.prog.wantsStandIn 22 = false by kernel_rfl)
        · exact (show Tryd.prog.wantsStandIn 3 = false by kernel_rfl)⟩)
    (by kernel_rfl)
#print axioms codeBack_holds
end Go.Proofs.YtbddgcaobcpanabDoor
