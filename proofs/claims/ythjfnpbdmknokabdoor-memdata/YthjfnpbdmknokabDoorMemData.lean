/-
  THE LAW 'barbicanlaw.MemData' IS TRUE AT EVERY INPUT: mem.CheckData answers what the document's answer to P3.2 says, for every image and every list of numbers; the call returns true and both read as they did.
  Conditions: none beyond the row's own (the table 'code.bounds' reads as its initialiser lays it: the card ties that to the program's text).
-/
import Derived.Test.YthjfnpbdmknokabDoorData
import Derived.Test.YthjfnpbdmknokabDoorOpen
import Derived.Test.YthjfnpbdmknokabDoorCards
import Derived.Test.YthjfnpbdmknokabDoorTie
import Derived.Stop.Joined
namespace Go.Proofs.YthjfnpbdmknokabDoor.MemData
open Go.ChangeShapes Go.WideShapes Go.ChangeAt Go.RowKit Go.Joins Tab Go.Proofs.YthjfnpbdmknokabDoor.Check Lists Img Go.Proofs.YthjfnpbdmknokabDoor.Read Go.Proofs.YthjfnpbdmknokabDoor.Open

theorem walk (ao : Option Addr) (len cap : Nat) (hlen : len ≤ maxLen) (P : Nat → PartD) (da : Option Addr) (dlen dcap : Nat) (z : Nat → Int) (w : World) (hl : Lies w) (hin : Parts w ao len P) (hd : Ints w da dlen z) :
    Calls Tryd.prog 5 #[.agg #[.slice ao len cap], .slice da dlen dcap] w fun e w' => e = .returned (.bool true) ∧ Below w.heap.size w w' := by
  have k16 : ∀ w, Lies w → Parts w ao len P → Ints w da dlen z → _ := fun w h h' h'' => Data.checkData ao len cap hlen P da dlen dcap z w h h' h''
  have k17 : ∀ w, Parts w ao len P → Ints w da dlen z → _ := fun w h h' => Data.ref ao len cap hlen P da dlen dcap z w h h'
  obtain ⟨r, er⟩ : ∃ r, r = dataFault P len z dlen := ⟨_, rfl⟩
  rw [← er] at k16 k17
  have hb0 := below1 w (.cells #[.slice ao len cap] 27)
  have hl1 := Lies_below hl hb0
  have hin1 := Parts_below hin hb0
  have hd1 := Ints_below hd hb0
  clear er hl hin hd hlen
  go_enter Tryd.func5, Tryd.ntmps5
  go_wp2_with (first
    | (go_at_call 16; refine (k16 _ hl1 hin1 hd1).mono ?_; rintro e w1 ⟨rfl, hb1⟩; have q0 := box1 hb1; have hin2 := Parts_below hin1 hb1; have hd2 := Ints_below hd1 hb1; have hb2 := hb0.trans (hb1.mono hb0.size); clear hb1)
    | (go_at_call 17; refine (k17 _ hin2 hd2).mono ?_; rintro e w2 ⟨rfl, hb3⟩; have hb4 := hb2.trans (hb3.mono hb2.size)))
  go_ret
  exact ⟨rfl, hb4⟩

set_option maxRecDepth 100000 in
theorem lifted (os : Os) (started : os.Started) (H : Type) (enc : TypeId × Value → H) :
    ReturnsInHanded {} Tryd.checked os 5 .any (fun w args => (Rows.memDataSpec.pre enc Tryd.prog Tryd.f5 [] false w args ∧ laidMetH Tryd.prog [("barbican/code.bounds", Rows.laid_barbican_code_bounds)] w) ∧ sizedMet enc Tryd.prog Tryd.f5 (OpenSpec.ofChange Rows.memDataSpec) false w args)
      (Rows.memDataSpec.post enc Tryd.prog Tryd.f5 false true false false) := by
  refine returnsInHanded_of_change_and (C := Tryd.checked) (X := fun w _ => laidMetH Tryd.prog [("barbican/code.bounds", Rows.laid_barbican_code_bounds)] w) (fun _ _ _ hh h => h.of_heap hh) own started (by kernel_rfl) Tryd.func5
    (ChangeSpec.witness_shaped (enc := enc) (C := Tryd.checked) (os := os) (X := fun w _ => laidMetH Tryd.prog [("barbican/code.bounds", Rows.laid_barbican_code_bounds)] w) false (World.doorLaid Tryd.prog 29 os) #[.agg #[.slice none 0 0], .slice none 0 0] 8 rfl (World.shaped_of_RefB (by kernel_rfl) (by kernel_rfl)) (by kernel_rfl) (by kernel_rfl) (by kernel_rfl)
      (laidMetH_of_parts3 (fuel := 8) (laidMet_of_run' 8 (by kernel_rfl) (by kernel_rfl)) (by kernel_rfl) (by kernel_rfl))) ?_
  intro W base args ds gs before hval0 hW _ _ hL _
  have hval : ∀ (j : Nat) t v, Tryd.f5.params[j]? = some t → args[j]? = some v → Value.okWide Tryd.prog W .any base t v := hval0
  have hW' := hW
  obtain ⟨p, q, hA0, hV, rfl, hfz, hnd⟩ := hW
  have hA : DataW.TrodAll enc Tryd.prog W 0 (fun _ => true) true Tryd.f5.params.toList args.toList ds p := hA0
  rw [Tryd.params5] at hA hval
  obtain ⟨v0, vs0, d0, ds0, p0, q0, hargs, rfl, rfl, h0, r0⟩ := trodAll_cons hA
  obtain ⟨v1, vs1, d1, ds1, p1, q1, rfl, rfl, rfl, h1, r1⟩ := trodAll_cons r0
  obtain ⟨rfl, rfl, rfl⟩ := trodAll_nil r1
  obtain rfl : args = #[v0, v1] := by cases args; simp_all
  obtain ⟨rfl, rfl⟩ := trodVars_none hV
  obtain ⟨fuel0, hf0⟩ := id h0
  obtain ⟨ao0, len0, cap0, P0, rfl, hl0, hin0⟩ := Open.image (hval 0 27 v0 rfl rfl) h0
  obtain ⟨fuel1, hf1⟩ := id h1
  obtain ⟨da1, dlen1, dcap1, rfl⟩ := okWide_slice Tryd.underlying28 (hval 1 28 v1 rfl rfl)
  obtain ⟨da', dlen', dcap', z1, hcs, hdl1, hd1⟩ := Open.numbers hf1
  obtain ⟨rfl, rfl, rfl⟩ : da1 = da' ∧ dlen1 = dlen' ∧ dcap1 = dcap' := by simpa [Value.cells] using hcs
  clear hA0 hval0
  simp only [List.append_nil] at hW'
  refine (walk ao0 len0 cap0 hl0 P0 da1 dlen1 dcap1 z1 W (lies hL) hin0 hd1).mono fun e W' ⟨he, hb⟩ => ?_
  subst he
  exact ⟨_, rfl, _, _, _, [], _, [], hW', trodAll_mk1 (shut_bool Tryd.underlying4 _), (trodAll_cons_mk (Below.trod laidOut (by kernel_rfl) (of_decide_eq_true (by kernel_rfl)) h0 hb (DataW.trod_lt fuel0 _ _ _ hf0)) (trodAll_cons_mk (Below.trod laidOut (by kernel_rfl) (of_decide_eq_true (by kernel_rfl)) h1 hb (DataW.trod_lt fuel1 _ _ _ hf1)) trodAll_mk0)), rfl, hb.frame _, fun h => by cases h⟩

theorem over : Rows.memDataRow.holds Tryd.pinned (OpenSpec.ofChange Rows.memDataSpec) :=
  OpenClaim.holds_of_wide 5 Tryd.f5 rfl rfl rfl rfl rfl rfl rfl ⟨rfl, rfl, rfl, rfl, rfl⟩ rfl rfl rfl rfl rfl (by kernel_rfl) Tryd.func5 (by kernel_rfl)
    (of_decide_eq_true (by kernel_rfl)) (by unfold Func.isWrapper; first | (rw [if_pos (by decide +kernel)]; kernel_rfl) | (rw [if_neg (by decide +kernel)]; exact ⟨rfl, rfl⟩))
    (fun os started H enc _ => lifted os started H enc)
end Go.Proofs.YthjfnpbdmknokabDoor.MemData
namespace Go.Proofs.YthjfnpbdmknokabDoor
/-- THE STATEMENT -/
theorem memData_holds : Rows.MemDataCardSaid :=
  Claim7.holds_tied_plain_at .later [] [.data] true (true, "81c76ff6fdf569a4b29dcad857822e0f4179bc4b15f98919ad32b53ee7133fe6") false
    MemData.over (fun _ h => by cases h) (by kernel_rfl) (fun _ h => by cases h) memData_row_tie rfl ⟨rfl, rfl⟩ (by kernel_rfl) rfl
    (fun f fn hf hfn => by
      obtain rfl : f = 5 := Option.some.inj ((show Tryd.prog.funcNamed "barbican/barbicanlaw.MemData" = some 5 by kernel_rfl).symm.trans hf) |>.symm
      obtain rfl : fn = Tryd.f5 := (Option.some.inj (Tryd.func5.symm.trans hfn)).symm
      exact ⟨by kernel_rfl, fun j t ht => by
        rw [Tryd.params5] at ht
        rcases j with _ | _ | j
        · obtain rfl : t = 27 := by simpa using ht.symm
          exact (show Tryd.prog.wantsStandIn 27 = false by kernel_rfl)
        · obtain rfl : t = 28 := by simpa using ht.symm
          exact (show Tryd.prog.wantsStandIn 28 = false by kernel_rfl)
        · simp at ht⟩)
    (by kernel_rfl)
#print axioms memData_holds
end Go.Proofs.YthjfnpbdmknokabDoor
