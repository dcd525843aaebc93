/-
  THE LAW 'barbicanlaw.MemLoads' IS TRUE AT EVERY INPUT: mem.Load answers what the document's answer to P3.3 says, for every image, every list of numbers, every part and every place; the call returns true and all arguments read as they did.
  Conditions: none beyond the row's own (the table 'code.bounds' reads as its initialiser lays it: the card ties that to the program's text).
-/
import Derived.Test.YthjfnpbdmknokabDoorLoad
import Derived.Test.YthjfnpbdmknokabDoorOpen
import Derived.Test.YthjfnpbdmknokabDoorCards
import Derived.Test.YthjfnpbdmknokabDoorTie
import Derived.Stop.Joined
namespace Go.Proofs.YthjfnpbdmknokabDoor.MemLoads
open Go.ChangeShapes Go.WideShapes Go.ChangeAt Go.RowKit Go.Joins Tab Go.Proofs.YthjfnpbdmknokabDoor.Check Lists Img Go.Proofs.YthjfnpbdmknokabDoor.Read Go.Proofs.YthjfnpbdmknokabDoor.Open

theorem walk (ao : Option Addr) (len cap : Nat) (hlen : len ≤ maxLen) (P : Nat → PartD) (da : Option Addr) (dlen dcap : Nat) (z : Nat → Int) (p : Int) (_ : (Lit.int .i64 p).wf = true) (t : Int) (_ : (Lit.int .i64 t).wf = true) (w : World) (hl : Lies w) (hin : Parts w ao len P) (hd : Ints w da dlen z) :
    Calls Tryd.prog 6 #[.agg #[.slice ao len cap], .slice da dlen dcap, .int .i64 p, .int .i64 t] w fun e w' => e = .returned (.bool true) ∧ Below w.heap.size w w' := by
  have k18 : ∀ w, Lies w → Parts w ao len P → Ints w da dlen z → _ := fun w h h' h'' => Load.load ao len cap hlen P da dlen dcap z p t w h h' h''
  have k19 : ∀ w, Parts w ao len P → Ints w da dlen z → _ := fun w h h' => Load.loadOf ao len cap hlen P da dlen dcap z p t w h h'
  obtain ⟨r, er⟩ : ∃ r, r = ownFault P len z dlen p t := ⟨_, rfl⟩
  obtain ⟨g, eg⟩ : ∃ g, g = Load.got P len z dlen p t := ⟨_, rfl⟩
  rw [← er, ← eg] at k18 k19
  have hb0 := below1 w (.cells #[.slice ao len cap] 27)
  have hl1 := Lies_below hl hb0
  have hin1 := Parts_below hin hb0
  have hd1 := Ints_below hd hb0
  clear er eg hl hin hd hlen
  go_enter Tryd.func6, Tryd.ntmps6
  go_wp2_with (first
    | (go_at_call 18; refine (k18 _ hl1 hin1 hd1).mono ?_; rintro e w1 ⟨rfl, hb1⟩; have q0 := box1 hb1; have hin2 := Parts_below hin1 hb1; have hd2 := Ints_below hd1 hb1; have hb2 := hb0.trans (hb1.mono hb0.size); clear hb1)
    | (go_at_call 19; refine (k19 _ hin2 hd2).mono ?_; rintro e w2 ⟨rfl, hb3⟩; have hb4 := hb2.trans (hb3.mono hb2.size)))
  go_ret
  exact ⟨rfl, hb4⟩

set_option maxRecDepth 100000 in
theorem lifted (os : Os) (started : os.Started) (H : Type) (enc : TypeId × Value → H) :
    ReturnsInHanded {} Tryd.checked os 6 .any (fun w args => (Rows.memLoadsSpec.pre enc Tryd.prog Tryd.f6 [] false w args ∧ laidMetH Tryd.prog [("barbican/code.bounds", Rows.laid_barbican_code_bounds)] w) ∧ sizedMet enc Tryd.prog Tryd.f6 (OpenSpec.ofChange Rows.memLoadsSpec) false w args)
      (Rows.memLoadsSpec.post enc Tryd.prog Tryd.f6 false true false false) := by
  refine returnsInHanded_of_change_and (C := Tryd.checked) (X := fun w _ => laidMetH Tryd.prog [("barbican/code.bounds", Rows.laid_barbican_code_bounds)] w) (fun _ _ _ hh h => h.of_heap hh) own started (by kernel_rfl) Tryd.func6
    (ChangeSpec.witness_shaped (enc := enc) (C := Tryd.checked) (os := os) (X := fun w _ => laidMetH Tryd.prog [("barbican/code.bounds", Rows.laid_barbican_code_bounds)] w) false (World.doorLaid Tryd.prog 29 os) #[.agg #[.slice none 0 0], .slice none 0 0, .int .i64 0, .int .i64 0] 8 rfl (World.shaped_of_RefB (by kernel_rfl) (by kernel_rfl)) (by kernel_rfl) (by kernel_rfl) (by kernel_rfl)
      (laidMetH_of_parts3 (fuel := 8) (laidMet_of_run' 8 (by kernel_rfl) (by kernel_rfl)) (by kernel_rfl) (by kernel_rfl))) ?_
  intro W base args ds gs before hval0 hW _ _ hL _
  have hval : ∀ (j : Nat) t v, Tryd.f6.params[j]? = some t → args[j]? = some v → Value.okWide Tryd.prog W .any base t v := hval0
  have hW' := hW
  obtain ⟨p, q, hA0, hV, rfl, hfz, hnd⟩ := hW
  have hA : DataW.TrodAll enc Tryd.prog W 0 (fun _ => true) true Tryd.f6.params.toList args.toList ds p := hA0
  rw [Tryd.params6] at hA hval
  obtain ⟨v0, vs0, d0, ds0, p0, q0, hargs, rfl, rfl, h0, r0⟩ := trodAll_cons hA
  obtain ⟨v1, vs1, d1, ds1, p1, q1, rfl, rfl, rfl, h1, r1⟩ := trodAll_cons r0
  obtain ⟨v2, vs2, d2, ds2, p2, q2, rfl, rfl, rfl, h2, r2⟩ := trodAll_cons r1
  obtain ⟨v3, vs3, d3, ds3, p3, q3, rfl, rfl, rfl, h3, r3⟩ := trodAll_cons r2
  obtain ⟨rfl, rfl, rfl⟩ := trodAll_nil r3
  obtain rfl : args = #[v0, v1, v2, v3] := by cases args; simp_all
  obtain ⟨rfl, rfl⟩ := trodVars_none hV
  obtain ⟨fuel0, hf0⟩ := id h0
  obtain ⟨ao0, len0, cap0, P0, rfl, hl0, hin0⟩ := Open.image (hval 0 27 v0 rfl rfl) h0
  obtain ⟨fuel1, hf1⟩ := id h1
  obtain ⟨da1, dlen1, dcap1, rfl⟩ := okWide_slice Tryd.underlying28 (hval 1 28 v1 rfl rfl)
  obtain ⟨da', dlen', dcap', z1, hcs, hdl1, hd1⟩ := Open.numbers hf1
  obtain ⟨rfl, rfl, rfl⟩ : da1 = da' ∧ dlen1 = dlen' ∧ dcap1 = dcap' := by simpa [Value.cells] using hcs
  obtain ⟨a2, rfl, rfl, rfl, w2⟩ := open_int Tryd.underlying3 (hval 2 3 v2 rfl rfl) h2
  obtain ⟨a3, rfl, rfl, rfl, w3⟩ := open_int Tryd.underlying3 (hval 3 3 v3 rfl rfl) h3
  clear hA0 hval0
  simp only [List.append_nil] at hW'
  refine (walk ao0 len0 cap0 hl0 P0 da1 dlen1 dcap1 z1 a2 w2 a3 w3 W (lies hL) hin0 hd1).mono fun e W' ⟨he, hb⟩ => ?_
  subst he
  exact ⟨_, rfl, _, _, _, [], _, [], hW', trodAll_mk1 (shut_bool Tryd.underlying4 _), (trodAll_cons_mk (Below.trod laidOut (by kernel_rfl) (of_decide_eq_true (by kernel_rfl)) h0 hb (DataW.trod_lt fuel0 _ _ _ hf0)) (trodAll_cons_mk (Below.trod laidOut (by kernel_rfl) (of_decide_eq_true (by kernel_rfl)) h1 hb (DataW.trod_lt fuel1 _ _ _ hf1)) (trodAll_cons_mk (shut_int Tryd.underlying3 w2) (trodAll_cons_mk (shut_int Tryd.underlying3 w3) trodAll_mk0)))), rfl, hb.frame _, fun h => by cases h⟩

theorem over : Rows.memLoadsRow.holds Tryd.pinned (OpenSpec.ofChange Rows.memLoadsSpec) :=
  OpenClaim.holds_of_wide 6 Tryd.f6 rfl rfl rfl rfl rfl rfl rfl ⟨rfl, rfl, rfl, rfl, rfl⟩ rfl rfl rfl rfl rfl (by kernel_rfl) Tryd.func6 (by kernel_rfl)
    (of_decide_eq_true (by kernel_rfl)) (by unfold Func.isWrapper; first | (rw [if_pos (by decide +kernel)]; kernel_rfl) | (rw [if_neg (by decide +kernel)]; exact ⟨rfl, rfl⟩))
    (fun os started H enc _ => lifted os started H enc)
end Go.Proofs.YthjfnpbdmknokabDoor.MemLoads
namespace Go.Proofs.YthjfnpbdmknokabDoor
/-- THE STATEMENT -/
theorem memLoads_holds : Rows.MemLoadsCardSaid :=
  Claim7.holds_tied_plain_at .later [] [.data] true (true, "81c76ff6fdf569a4b29dcad857822e0f4179bc4b15f98919ad32b53ee7133fe6") false
    MemLoads.over (fun _ h => by cases h) (by kernel_rfl) (fun _ h => by cases h) memLoads_row_tie rfl ⟨rfl, rfl⟩ (by kernel_rfl) rfl
    (fun f fn hf hfn => by
      obtain rfl : f = 6 := Option.some.inj ((show Tryd.prog.funcNamed "barbican/barbicanlaw.MemLoads" = some 6 by kernel_rfl).symm.trans hf) |>.symm
      obtain rfl : fn = Tryd.f6 := (Option.some.inj (Tryd.func6.symm.trans hfn)).symm
      exact ⟨by kernel_rfl, fun j t ht => by
        rw [Tryd.params6] at ht
        rcases j with _ | _ | _ | _ | j
        · obtain rfl : t = 27 := by simpa using ht.symm
          exact (show Tryd.prog.wantsStandIn 27 = false by kernel_rfl)
        · obtain rfl : t = 28 := by simpa using ht.symm
          exact (show Tryd.prog.wantsStandIn 28 = false by kernel_rfl)
        · obtain rfl : t = 3 := by simpa using ht.symm
          exact (show Tryd.prog.wantsStandIn 3 = false by kernel_rfl)
        · obtain rfl : t = 3 := by simpa using ht.symm
          exact (show Tryd.prog.wantsStandIn 3 = false by kernel_rfl)
        · simp at ht⟩)
    (by kernel_rfl)
#print axioms memLoads_holds
end Go.Proofs.YthjfnpbdmknokabDoor
