/-
  THE LAW 'barbicanlaw.MachRuns' IS TRUE AT EVERY INPUT: mach.Run answers what the document's answer to P4.1 says, for every image, all data, every part, entry, list of words and fuel, and leaves the data as it was; the call returns true and all arguments read as they did.
  Conditions: none beyond the row's own (the table 'code.bounds' reads as its initialiser lays it: the card ties that to the program's text).
-/
import Derived.Test.YtmbbkabecipkaacDoorWhole53
import Derived.Test.YtmbbkabecipkaacDoorCards
import Derived.Test.YtmbbkabecipkaacDoorTie
import Derived.Stop.Joined
import Derived.SizedLaws
namespace Go.Proofs.YtmbbkabecipkaacDoor.MachRuns
open Go.ChangeShapes Go.WideShapes Go.ChangeAt Go.RowKit Go.Joins Tab Go.Proofs.YtmbbkabecipkaacDoor.Check Lists Img Go.Proofs.YtmbbkabecipkaacDoor.Read Go.Proofs.YtmbbkabecipkaacDoor.Open

theorem as_list {w : World} {ao : Option Addr} {n : Nat} {z : Nat → Int} (h : Ints w ao n z) : ∃ l : List Int, n = l.length ∧ Ints w ao l.length (fun i => l.getD i 0) := by
  refine ⟨(List.range n).map z, by simp, fun k hk => ?_⟩
  simp only [List.length_map, List.length_range] at hk
  obtain ⟨bl, off, e, t⟩ := h k hk
  refine ⟨bl, off, e, fun j hj => ?_⟩
  simp only [List.length_map, List.length_range] at hj
  rw [t j hj]
  simp [List.getD_eq_getElem?_getD, hj]

theorem walkz (ao : Option Addr) (len cap : Nat) (hlen : len ≤ maxLen) (P : Nat → PartD) (da : Option Addr) (dlen dcap : Nat) (z : Nat → Int) (hby : dlen * 8 ≤ 140737488355328) (p : Int) (_ : (Lit.int .i64 p).wf = true) (en : Int) (_ : (Lit.int .i64 en).wf = true) (aa : Option Addr) (alen acap : Nat) (az : Nat → Int) (hay : alen * 8 ≤ 140737488355328) (fuel : Int) (_ : (Lit.int .i64 fuel).wf = true) (w : World) (hl : Lies w) (hin : Parts w ao len P) (hd : Ints w da dlen z) (ha : Ints w aa alen az) :
    Calls Tryd.prog 4 #[.agg #[.slice ao len cap], .slice da dlen dcap, .int .i64 p, .int .i64 en, .slice aa alen acap, .int .i64 fuel] w fun e w' => e = .returned (.bool true) ∧ Below w.heap.size w w' := by
  obtain ⟨data, rfl, hd'⟩ := as_list hd
  obtain ⟨args, rfl, ha'⟩ := as_list ha
  exact MachWalk.walk ao len cap hlen P da data dcap hby p en aa args acap (by unfold maxLen; omega) fuel w hl hin hd' ha'

theorem bytes3 : Tryd.prog.bytesOf 3 = 8 := by kernel_rfl

/-- a list of numbers that is handed in takes fewer than 2^47 bytes: the form's own reach -/
theorem sized_numbers {H : Type} {enc : TypeId × Value → H} {W : World} {spare : Nat → Bool} {held : Bool} {ts : List TypeId} {ds : List (DataW H)} (hsz : (DataW.weightsEach Tryd.prog ts ds).all (· ≤ reachBytes) = true) {j : Nat} {d : DataW H} {p : List MemPlace} {da : Option Addr} {dlen dcap : Nat}
    (ht : ts[j]? = some 29) (hd : ds[j]? = some d) (h : DataW.Trod enc Tryd.prog W 0 spare held 29 (.slice da dlen dcap) d p) : dlen * 8 ≤ 140737488355328 := by
  obtain ⟨fuel, hf⟩ := h
  rcases Go.Deep.open_slice1 Tryd.underlying29 cells3 hf with ⟨hcs, _⟩ | ⟨ad, len, cap, m, n, V, D, Pl, hcs, _, _, _, _, hx, _⟩
  · simp [Value.cells] at hcs
    omega
  · simp [Value.cells] at hcs
    obtain ⟨_, rfl, _⟩ := hcs
    simp only [Prod.mk.injEq] at hx
    rw [hx.1] at hd
    have := sized_slice hsz ht hd Tryd.underlying29
    rw [bytes3] at this
    have h2 := reachBytes_lt
    simp at this
    omega

set_option maxRecDepth 100000 in
theorem lifted (os : Os) (started : os.Started) (H : Type) (enc : TypeId × Value → H) :
    ReturnsInHanded {} Tryd.checked os 4 .any (fun w args => (Rows.machRunsSpec.pre enc Tryd.prog Tryd.f4 [] false w args ∧ laidMetH Tryd.prog [("barbican/code.bounds", Rows.laid_barbican_code_bounds)] w) ∧ sizedMet enc Tryd.prog Tryd.f4 (OpenSpec.ofChange Rows.machRunsSpec) false w args)
      (Rows.machRunsSpec.post enc Tryd.prog Tryd.f4 false true false false) := by
  refine returnsInHanded_of_change_and (C := Tryd.checked) (X := fun w _ => laidMetH Tryd.prog [("barbican/code.bounds", Rows.laid_barbican_code_bounds)] w) (fun _ _ _ hh h => h.of_heap hh) own started (by kernel_rfl) Tryd.func4
    (ChangeSpec.witness_shaped (enc := enc) (C := Tryd.checked) (os := os) (X := fun w _ => laidMetH Tryd.prog [("barbican/code.bounds", Rows.laid_barbican_code_bounds)] w) false (World.doorLaid Tryd.prog 29 os) #[.agg #[.slice none 0 0], .slice none 0 0, .int .i64 0, .int .i64 0, .slice none 0 0, .int .i64 0] 8 rfl (World.shaped_of_RefB (by kernel_rfl) (by kernel_rfl)) (by kernel_rfl) (by kernel_rfl) (by kernel_rfl)
      (laidMetH_of_parts3 (fuel := 8) (laidMet_of_run' 8 (by kernel_rfl) (by kernel_rfl)) (by kernel_rfl) (by kernel_rfl))) ?_
  intro W base args ds gs before hval0 hW _ hsz0 hL _
  have hval : ∀ (j : Nat) t v, Tryd.f4.params[j]? = some t → args[j]? = some v → Value.okWide Tryd.prog W .any base t v := hval0
  have hsz : (DataW.weightsEach Tryd.prog (Tryd.f4.params.toList ++ Rows.machRunsSpec.plain.varTypes Tryd.prog) (ds ++ gs)).all (· ≤ reachBytes) = true := hsz0
  have hW' := hW
  obtain ⟨p, q, hA0, hV, rfl, hfz, hnd⟩ := hW
  have hA : DataW.TrodAll enc Tryd.prog W 0 (fun _ => true) true Tryd.f4.params.toList args.toList ds p := hA0
  rw [Tryd.params4] at hA hval hsz
  obtain ⟨v0, vs0, d0, ds0, p0, q0, hargs, rfl, rfl, h0, r0⟩ := trodAll_cons hA
  obtain ⟨v1, vs1, d1, ds1, p1, q1, rfl, rfl, rfl, h1, r1⟩ := trodAll_cons r0
  obtain ⟨v2, vs2, d2, ds2, p2, q2, rfl, rfl, rfl, h2, r2⟩ := trodAll_cons r1
  obtain ⟨v3, vs3, d3, ds3, p3, q3, rfl, rfl, rfl, h3, r3⟩ := trodAll_cons r2
  obtain ⟨v4, vs4, d4, ds4, p4, q4, rfl, rfl, rfl, h4, r4⟩ := trodAll_cons r3
  obtain ⟨v5, vs5, d5, ds5, p5, q5, rfl, rfl, rfl, h5, r5⟩ := trodAll_cons r4
  obtain ⟨rfl, rfl, rfl⟩ := trodAll_nil r5
  obtain rfl : args = #[v0, v1, v2, v3, v4, v5] := by cases args; simp_all
  obtain ⟨rfl, rfl⟩ := trodVars_none hV
  obtain ⟨fuel0, hf0⟩ := id h0
  obtain ⟨ao0, len0, cap0, P0, rfl, hl0, hin0⟩ := Open.image (hval 0 24 v0 rfl rfl) h0
  obtain ⟨fuel1, hf1⟩ := id h1
  obtain ⟨da1, dlen1, dcap1, rfl⟩ := okWide_slice Tryd.underlying29 (hval 1 29 v1 rfl rfl)
  have hby1 : dlen1 * 8 ≤ 140737488355328 := sized_numbers hsz (j := 1) rfl rfl h1
  obtain ⟨da', dlen', dcap', z1, hcs, hdl1, hd1⟩ := Open.numbers hf1
  obtain ⟨rfl, rfl, rfl⟩ : da1 = da' ∧ dlen1 = dlen' ∧ dcap1 = dcap' := by simpa [Value.cells] using hcs
  obtain ⟨a2, rfl, rfl, rfl, w2⟩ := open_int Tryd.underlying3 (hval 2 3 v2 rfl rfl) h2
  obtain ⟨a3, rfl, rfl, rfl, w3⟩ := open_int Tryd.underlying3 (hval 3 3 v3 rfl rfl) h3
  obtain ⟨fuel4, hf4⟩ := id h4
  obtain ⟨da4, dlen4, dcap4, rfl⟩ := okWide_slice Tryd.underlying29 (hval 4 29 v4 rfl rfl)
  have hby4 : dlen4 * 8 ≤ 140737488355328 := sized_numbers hsz (j := 4) rfl rfl h4
  obtain ⟨da', dlen', dcap', z4, hcs, hdl4, hd4⟩ := Open.numbers hf4
  obtain ⟨rfl, rfl, rfl⟩ : da4 = da' ∧ dlen4 = dlen' ∧ dcap4 = dcap' := by simpa [Value.cells] using hcs
  obtain ⟨a5, rfl, rfl, rfl, w5⟩ := open_int Tryd.underlying3 (hval 5 3 v5 rfl rfl) h5
  clear hA0 hval0
  simp only [List.append_nil] at hW'
  refine (walkz ao0 len0 cap0 hl0 P0 da1 dlen1 dcap1 z1 hby1 a2 w2 a3 w3 da4 dlen4 dcap4 z4 hby4 a5 w5 W (lies hL) hin0 hd1 hd4).mono fun e W' ⟨he, hb⟩ => ?_
  subst he
  exact ⟨_, rfl, _, _, _, [], _, [], hW', trodAll_mk1 (shut_bool Tryd.underlying4 _), (trodAll_cons_mk (Below.trod laidOut (by kernel_rfl) (of_decide_eq_true (by kernel_rfl)) h0 hb (DataW.trod_lt fuel0 _ _ _ hf0)) (trodAll_cons_mk (Below.trod laidOut (by kernel_rfl) (of_decide_eq_true (by kernel_rfl)) h1 hb (DataW.trod_lt fuel1 _ _ _ hf1)) (trodAll_cons_mk (shut_int Tryd.underlying3 w2) (trodAll_cons_mk (shut_int Tryd.underlying3 w3) (trodAll_cons_mk (Below.trod laidOut (by kernel_rfl) (of_decide_eq_true (by kernel_rfl)) h4 hb (DataW.trod_lt fuel4 _ _ _ hf4)) (trodAll_cons_mk (shut_int Tryd.underlying3 w5) trodAll_mk0)))))), rfl, hb.frame _, fun h => by cases h⟩

theorem over : Rows.machRunsRow.holds Tryd.pinned (OpenSpec.ofChange Rows.machRunsSpec) :=
  OpenClaim.holds_of_wide 4 Tryd.f4 rfl rfl rfl rfl rfl rfl rfl ⟨rfl, rfl, rfl, rfl, rfl⟩ rfl rfl rfl rfl rfl (by kernel_rfl) Tryd.func4 (by kernel_rfl)
    (of_decide_eq_true (by kernel_rfl)) (by unfold Func.isWrapper; first | (rw [if_pos (by decide +kernel)]; kernel_rfl) | (rw [if_neg (by decide +kernel)]; exact ⟨rfl, rfl⟩))
    (fun os started H enc _ => lifted os started H enc)
end Go.Proofs.YtmbbkabecipkaacDoor.MachRuns
namespace Go.Proofs.YtmbbkabecipkaacDoor
/-- THE STATEMENT -/
theorem machRuns_holds : Rows.MachRunsCardSaid :=
  Claim7.holds_tied_plain_at .later [] [.data] true (true, "9184df63d0e0042906ce6ac6a5dd3c1dc73bcaf265c75de620025ddef0086ff9") false
    MachRuns.over (fun _ h => by cases h) (by kernel_rfl) (fun _ h => by cases h) machRuns_row_tie rfl ⟨rfl, rfl⟩ (by kernel_rfl) rfl
    (fun f fn hf hfn => by
      obtain rfl : f = 4 := Option.some.inj ((show Tryd.prog.funcNamed "barbican/barbicanlaw.MachRuns" = some 4 by kernel_rfl).symm.trans hf) |>.symm
      obtain rfl : fn = Tryd.f4 := (Option.some.inj (Tryd.func4.symm.trans hfn)).symm
      exact ⟨by kernel_rfl, fun j t ht => by
        rw [Tryd.params4] at ht
        rcases j with _ | _ | _ | _ | _ | _ | j
        · obtain rfl : t = 24 := by simpa using ht.symm
          exact (show Tryd.prog.wantsStandIn 24 = false by kernel_rfl)
        · obtain rfl : t = 29 := by simpa using ht.symm
          exact (show Tryd.prog.wantsStandIn 29 = false by kernel_rfl)
        · obtain rfl : t = 3 := by simpa using ht.symm
          exact (show Tryd.prog.wantsStandIn 3 = false by kernel_rfl)
        · obtain rfl : t = 3 := by simpa using ht.symm
          exact (show Tryd.prog.wantsStandIn 3 = false by kernel_rfl)
        · obtain rfl : t = 29 := by simpa using ht.symm
          exact (show Tryd.prog.wantsStandIn 29 = false by kernel_rfl)
        · obtain rfl : t = 3 := by simpa using ht.symm
          exact (show Tryd.prog.wantsStandIn 3 = false by kernel_rfl)
        · simp at ht⟩)
    (by kernel_rfl)
#print axioms machRuns_holds
end Go.Proofs.YtmbbkabecipkaacDoor
