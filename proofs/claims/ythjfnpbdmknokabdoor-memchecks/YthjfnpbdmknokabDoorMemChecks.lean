/-
  THE LAW 'barbicanlaw.MemChecks' IS TRUE AT EVERY INPUT: mem.Check answers what the document's answer to P3.1 says, for every image; the call returns true and the image reads as it did.
  Conditions: none beyond the row's own (the table 'code.bounds' reads as its initialiser lays it: the card ties that to the program's text).
-/
import Derived.Test.YthjfnpbdmknokabDoorImage
import Derived.Test.YthjfnpbdmknokabDoorRefImage
import Derived.Test.YthjfnpbdmknokabDoorOpen
import Derived.Test.YthjfnpbdmknokabDoorCards
import Derived.Test.YthjfnpbdmknokabDoorTie
import Derived.Stop.Joined
namespace Go.Proofs.YthjfnpbdmknokabDoor.MemChecks
open Go.ChangeShapes Go.WideShapes Go.ChangeAt Go.RowKit Go.Joins Tab Go.Proofs.YthjfnpbdmknokabDoor.Check Lists Img Go.Proofs.YthjfnpbdmknokabDoor.Open

theorem walk (ao : Option Addr) (len cap : Nat) (P : Nat → PartD) (w : World) (hl : Lies w) (hin : Parts w ao len P) :
    Calls Tryd.prog 4 #[.agg #[.slice ao len cap]] w fun e w' => e = .returned (.bool true) ∧ Below w.heap.size w w' := by
  have k14 : ∀ w, Lies w → Parts w ao len P → _ := fun w h h' => Image.check ao len cap P w h h'
  have k15 : ∀ w, Parts w ao len P → _ := fun w h => RefImage.ref ao len cap P w h
  obtain ⟨r, er⟩ : ∃ r, r = imageFault P len := ⟨_, rfl⟩
  rw [← er] at k14 k15
  have hb0 := below1 w (.cells #[.slice ao len cap] 27)
  have hl1 := Lies_below hl hb0
  have hin1 := Parts_below hin hb0
  clear er hl hin
  go_enter Tryd.func4, Tryd.ntmps4
  go_wp2_with (first
    | (go_at_call 14; refine (k14 _ hl1 hin1).mono ?_; rintro e w1 ⟨rfl, hb1⟩; have q0 := box1 hb1; have hin2 := Parts_below hin1 hb1; have hb2 := hb0.trans (hb1.mono hb0.size); clear hb1)
    | (go_at_call 15; refine (k15 _ hin2).mono ?_; rintro e w2 ⟨rfl, hb3⟩; have hb4 := hb2.trans (hb3.mono hb2.size)))
  go_ret
  exact ⟨rfl, hb4⟩

set_option maxRecDepth 100000 in
theorem lifted (os : Os) (started : os.Started) (H : Type) (enc : TypeId × Value → H) :
    ReturnsInHanded {} Tryd.checked os 4 .any (fun w args => (Rows.memChecksSpec.pre enc Tryd.prog Tryd.f4 [] false w args ∧ laidMetH Tryd.prog [("barbican/code.bounds", Rows.laid_barbican_code_bounds)] w) ∧ sizedMet enc Tryd.prog Tryd.f4 (OpenSpec.ofChange Rows.memChecksSpec) false w args)
      (Rows.memChecksSpec.post enc Tryd.prog Tryd.f4 false true false false) := by
  refine returnsInHanded_of_change_and (C := Tryd.checked) (X := fun w _ => laidMetH Tryd.prog [("barbican/code.bounds", Rows.laid_barbican_code_bounds)] w) (fun _ _ _ hh h => h.of_heap hh) own started (by kernel_rfl) Tryd.func4
    (ChangeSpec.witness_shaped (enc := enc) (C := Tryd.checked) (os := os) (X := fun w _ => laidMetH Tryd.prog [("barbican/code.bounds", Rows.laid_barbican_code_bounds)] w) false (World.doorLaid Tryd.prog 29 os) #[.agg #[.slice none 0 0]] 8 rfl (World.shaped_of_RefB (by kernel_rfl) (by kernel_rfl)) (by kernel_rfl) (by kernel_rfl) (by kernel_rfl)
      (laidMetH_of_parts3 (fuel := 8) (laidMet_of_run' 8 (by kernel_rfl) (by kernel_rfl)) (by kernel_rfl) (by kernel_rfl))) ?_
  intro W base args ds gs before hval0 hW _ _ hL _
  have hval : ∀ (j : Nat) t v, Tryd.f4.params[j]? = some t → args[j]? = some v → Value.okWide Tryd.prog W .any base t v := hval0
  have hW' := hW
  obtain ⟨p, q, hA0, hV, rfl, hfz, hnd⟩ := hW
  have hA : DataW.TrodAll enc Tryd.prog W 0 (fun _ => true) true Tryd.f4.params.toList args.toList ds p := hA0
  rw [Tryd.params4] at hA hval
  obtain ⟨v0, d0, rfl, rfl, h0⟩ := trodAll_one hA
  obtain ⟨rfl, rfl⟩ := trodVars_none hV
  obtain ⟨fuel, hf⟩ := id h0
  obtain ⟨ao, len, cap, P, rfl, _, hin⟩ := Open.image (hval 0 27 v0 rfl rfl) h0
  clear hA0 hval0
  simp only [List.append_nil] at hW'
  refine (walk ao len cap P W (lies hL) hin).mono fun e W' ⟨he, hb⟩ => ?_
  subst he
  exact ⟨_, rfl, _, _, _, [], p, [], hW', trodAll_mk1 (shut_bool Tryd.underlying4 _), trodAll_mk1 (Below.trod laidOut (by kernel_rfl) (of_decide_eq_true (by kernel_rfl)) h0 hb (DataW.trod_lt fuel _ _ _ hf)), rfl, hb.frame _, fun h => by cases h⟩

theorem over : Rows.memChecksRow.holds Tryd.pinned (OpenSpec.ofChange Rows.memChecksSpec) :=
  OpenClaim.holds_of_wide 4 Tryd.f4 rfl rfl rfl rfl rfl rfl rfl ⟨rfl, rfl, rfl, rfl, rfl⟩ rfl rfl rfl rfl rfl (by kernel_rfl) Tryd.func4 (by kernel_rfl)
    (of_decide_eq_true (by kernel_rfl)) (by unfold Func.isWrapper; first | (rw [if_pos (by decide +kernel)]; kernel_rfl) | (rw [if_neg (by decide +kernel)]; exact ⟨rfl, rfl⟩))
    (fun os started H enc _ => lifted os started H enc)
end Go.Proofs.YthjfnpbdmknokabDoor.MemChecks
namespace Go.Proofs.YthjfnpbdmknokabDoor
/-- THE STATEMENT -/
theorem memChecks_holds : Rows.MemChecksCardSaid :=
  Claim7.holds_tied_plain_at .later [] [.data] true (true, "81c76ff6fdf569a4b29dcad857822e0f4179bc4b15f98919ad32b53ee7133fe6") false
    MemChecks.over (fun _ h => by cases h) (by kernel_rfl) (fun _ h => by cases h) memChecks_row_tie rfl ⟨rfl, rfl⟩ (by kernel_rfl) rfl
    (fun f fn hf hfn => by
      obtain rfl : f = 4 := Option.some.inj ((show Tryd.prog.funcNamed "barbican/barbicanlaw.MemChecks" = some 4 by kernel_rfl).symm.trans hf) |>.symm
      obtain rfl : fn = Tryd.f4 := (Option.some.inj (Tryd.func4.symm.trans hfn)).symm
      exact ⟨by kernel_rfl, fun j t ht => by
        rw [Tryd.params4] at ht
        have h3 : t = 27 := by
          rcases j with _ | j
          · simpa using ht.symm
          · simp at ht
        subst h3
        exact (show Tryd.prog.wantsStandIn 27 = false by kernel_rfl)⟩)
    (by kernel_rfl)
#print axioms memChecks_holds
end Go.Proofs.YthjfnpbdmknokabDoor
