/-
  THE LAW 'barbicanlaw.MemStores' IS TRUE AT EVERY INPUT: mem.Store answers what the document's answer to P3.3 says, for every image, every list of numbers, every part, every place and every number; the call returns true and all arguments read as they did.
  Conditions: none beyond the row's own (the table 'code.bounds' reads as its initialiser lays it: the card ties that to the program's text).
-/
import Derived.Test.YthjfnpbdmknokabDoorStored
import Derived.Test.YthjfnpbdmknokabDoorOpen
import Derived.Test.YthjfnpbdmknokabDoorCards
import Derived.Test.YthjfnpbdmknokabDoorTie
import Derived.Stop.Joined
import Derived.SizedLaws
namespace Go.Proofs.YthjfnpbdmknokabDoor.MemStores
open Go.ChangeShapes Go.WideShapes Go.ChangeAt Go.RowKit Go.Joins Tab Go.Proofs.YthjfnpbdmknokabDoor.Check Lists Img Go.Proofs.YthjfnpbdmknokabDoor.Read Go.Proofs.YthjfnpbdmknokabDoor.Open

theorem walk (ao : Option Addr) (len cap : Nat) (hlen : len ≤ maxLen) (P : Nat → PartD) (da : Option Addr) (dlen dcap : Nat) (z : Nat → Int) (hby : dlen * 8 ≤ 140737488355328) (p : Int) (_ : (Lit.int .i64 p).wf = true) (t : Int) (_ : (Lit.int .i64 t).wf = true) (n : Int) (_ : (Lit.int .i64 n).wf = true) (w : World) (hl : Lies w) (hin : Parts w ao len P) (hd : Ints w da dlen z) :
    Calls Tryd.prog 7 #[.agg #[.slice ao len cap], .slice da dlen dcap, .int .i64 p, .int .i64 t, .int .i64 n] w fun e w' => e = .returned (.bool true) ∧ Below w.heap.size w w' := by
  by_cases h : Store.storeFault P len z dlen p t n = 0
  · rcases Store.ways P len z dlen p t n with ⟨r, er, hr, eo, es⟩ | ⟨er, hp, eo, es⟩ | ⟨er, k, rfl, hk, ht, eo, es⟩ | ⟨er, k, j, rfl, rfl, hk, ht, hj, hn, eo, es⟩ | ⟨er, k, j, rfl, rfl, hk, ht, hj, hn, eo, es⟩
    · exact absurd (es.symm.trans h) hr
    · exact absurd (es.symm.trans h) (by decide)
    · exact absurd (es.symm.trans h) (by decide)
    · exact absurd (es.symm.trans h) (by decide)
    · exact Stored.walk_ok ao len cap hlen P da dlen dcap z hby k j n w hl hin hd er hk ht hn
  · exact Stored.walk_bad ao len cap hlen P da dlen dcap z hby p t n w hl hin hd h

theorem bytes3 : Tryd.prog.bytesOf 3 = 8 := by kernel_rfl

/-- a list of numbers that is handed in takes fewer than 2^47 bytes: the form's own reach -/
theorem sized_numbers {H : Type} {enc : TypeId × Value → H} {W : World} {spare : Nat → Bool} {held : Bool} {ts : List TypeId} {ds : List (DataW H)} (hsz : (DataW.weightsEach Tryd.prog ts ds).all (· ≤ reachBytes) = true) {j : Nat} {d : DataW H} {p : List MemPlace} {da : Option Addr} {dlen dcap : Nat}
    (ht : ts[j]? = some 28) (hd : ds[j]? = some d) (h : DataW.Trod enc Tryd.prog W 0 spare held 28 (.slice da dlen dcap) d p) : dlen * 8 ≤ 140737488355328 := by
  obtain ⟨fuel, hf⟩ := h
  rcases Go.Deep.open_slice1 Tryd.underlying28 cells3 hf with ⟨hcs, _⟩ | ⟨ad, len, cap, m, n, V, D, Pl, hcs, _, _, _, _, hx, _⟩
  · simp [Value.cells] at hcs
    omega
  · simp [Value.cells] at hcs
    obtain ⟨_, rfl, _⟩ := hcs
    simp only [Prod.mk.injEq] at hx
    rw [hx.1] at hd
    have := sized_slice hsz ht hd Tryd.underlying28
    rw [bytes3] at this
    have h2 := reachBytes_lt
    simp at this
    omega

set_option maxRecDepth 100000 in
theorem lifted (os : Os) (started : os.Started) (H : Type) (enc : TypeId × Value → H) :
    ReturnsInHanded {} Tryd.checked os 7 .any (fun w args => (Rows.memStoresSpec.pre enc Tryd.prog Tryd.f7 [] false w args ∧ laidMetH Tryd.prog [("barbican/code.bounds", Rows.laid_barbican_code_bounds)] w) ∧ sizedMet enc Tryd.prog Tryd.f7 (OpenSpec.ofChange Rows.memStoresSpec) false w args)
      (Rows.memStoresSpec.post enc Tryd.prog Tryd.f7 false true false false) := by
  refine returnsInHanded_of_change_and (C := Tryd.checked) (X := fun w _ => laidMetH Tryd.prog [("barbican/code.bounds", Rows.laid_barbican_code_bounds)] w) (fun _ _ _ hh h => h.of_heap hh) own started (by kernel_rfl) Tryd.func7
    (ChangeSpec.witness_shaped (enc := enc) (C := Tryd.checked) (os := os) (X := fun w _ => laidMetH Tryd.prog [("barbican/code.bounds", Rows.laid_barbican_code_bounds)] w) false (World.doorLaid Tryd.prog 29 os) #[.agg #[.slice none 0 0], .slice none 0 0, .int .i64 0, .int .i64 0, .int .i64 0] 8 rfl (World.shaped_of_RefB (by kernel_rfl) (by kernel_rfl)) (by kernel_rfl) (by kernel_rfl) (by kernel_rfl)
      (laidMetH_of_parts3 (fuel := 8) (laidMet_of_run' 8 (by kernel_rfl) (by kernel_rfl)) (by kernel_rfl) (by kernel_rfl))) ?_
  intro W base args ds gs before hval0 hW _ hsz0 hL _
  have hval : ∀ (j : Nat) t v, Tryd.f7.params[j]? = some t → args[j]? = some v → Value.okWide Tryd.prog W .any base t v := hval0
  have hsz : (DataW.weightsEach Tryd.prog (Tryd.f7.params.toList ++ Rows.memStoresSpec.plain.varTypes Tryd.prog) (ds ++ gs)).all (· ≤ reachBytes) = true := hsz0
  have hW' := hW
  obtain ⟨p, q, hA0, hV, rfl, hfz, hnd⟩ := hW
  have hA : DataW.TrodAll enc Tryd.prog W 0 (fun _ => true) true Tryd.f7.params.toList args.toList ds p := hA0
  rw [Tryd.params7] at hA hval hsz
  obtain ⟨v0, vs0, d0, ds0, p0, q0, hargs, rfl, rfl, h0, r0⟩ := trodAll_cons hA
  obtain ⟨v1, vs1, d1, ds1, p1, q1, rfl, rfl, rfl, h1, r1⟩ := trodAll_cons r0
  obtain ⟨v2, vs2, d2, ds2, p2, q2, rfl, rfl, rfl, h2, r2⟩ := trodAll_cons r1
  obtain ⟨v3, vs3, d3, ds3, p3, q3, rfl, rfl, rfl, h3, r3⟩ := trodAll_cons r2
  obtain ⟨v4, vs4, d4, ds4, p4, q4, rfl, rfl, rfl, h4, r4⟩ := trodAll_cons r3
  obtain ⟨rfl, rfl, rfl⟩ := trodAll_nil r4
  obtain rfl : args = #[v0, v1, v2, v3, v4] := by cases args; simp_all
  obtain ⟨rfl, rfl⟩ := trodVars_none hV
  obtain ⟨fuel0, hf0⟩ := id h0
  obtain ⟨ao0, len0, cap0, P0, rfl, hl0, hin0⟩ := Open.image (hval 0 27 v0 rfl rfl) h0
  obtain ⟨fuel1, hf1⟩ := id h1
  obtain ⟨da1, dlen1, dcap1, rfl⟩ := okWide_slice Tryd.underlying28 (hval 1 28 v1 rfl rfl)
  have hby1 : dlen1 * 8 ≤ 140737488355328 := sized_numbers hsz (j := 1) rfl rfl h1
  obtain ⟨da', dlen', dcap', z1, hcs, hdl1, hd1⟩ := Open.numbers hf1
  obtain ⟨rfl, rfl, rfl⟩ : da1 = da' ∧ dlen1 = dlen' ∧ dcap1 = dcap' := by simpa [Value.cells] using hcs
  obtain ⟨a2, rfl, rfl, rfl, w2⟩ := open_int Tryd.underlying3 (hval 2 3 v2 rfl rfl) h2
  obtain ⟨a3, rfl, rfl, rfl, w3⟩ := open_int Tryd.underlying3 (hval 3 3 v3 rfl rfl) h3
  obtain ⟨a4, rfl, rfl, rfl, w4⟩ := open_int Tryd.underlying3 (hval 4 3 v4 rfl rfl) h4
  clear hA0 hval0
  simp only [List.append_nil] at hW'
  refine (walk ao0 len0 cap0 hl0 P0 da1 dlen1 dcap1 z1 hby1 a2 w2 a3 w3 a4 w4 W (lies hL) hin0 hd1).mono fun e W' ⟨he, hb⟩ => ?_
  subst he
  exact ⟨_, rfl, _, _, _, [], _, [], hW', trodAll_mk1 (shut_bool Tryd.underlying4 _), (trodAll_cons_mk (Below.trod laidOut (by kernel_rfl) (of_decide_eq_true (by kernel_rfl)) h0 hb (DataW.trod_lt fuel0 _ _ _ hf0)) (trodAll_cons_mk (Below.trod laidOut (by kernel_rfl) (of_decide_eq_true (by kernel_rfl)) h1 hb (DataW.trod_lt fuel1 _ _ _ hf1)) (trodAll_cons_mk (shut_int Tryd.underlying3 w2) (trodAll_cons_mk (shut_int Tryd.underlying3 w3) (trodAll_cons_mk (shut_int Tryd.underlying3 w4) trodAll_mk0))))), rfl, hb.frame _, fun h => by cases h⟩

theorem over : Rows.memStoresRow.holds Tryd.pinned (OpenSpec.ofChange Rows.memStoresSpec) :=
  OpenClaim.holds_of_wide 7 Tryd.f7 rfl rfl rfl rfl rfl rfl rfl ⟨rfl, rfl, rfl, rfl, rfl⟩ rfl rfl rfl rfl rfl (by kernel_rfl) Tryd.func7 (by kernel_rfl)
    (of_decide_eq_true (by kernel_rfl)) (by unfold Func.isWrapper; first | (rw [if_pos (by decide +kernel)]; kernel_rfl) | (rw [if_neg (by decide +kernel)]; exact ⟨rfl, rfl⟩))
    (fun os started H enc _ => lifted os started H enc)
end Go.Proofs.YthjfnpbdmknokabDoor.MemStores
namespace Go.Proofs.YthjfnpbdmknokabDoor
/-- THE STATEMENT -/
theorem memStores_holds : Rows.MemStoresCardSaid :=
  Claim7.holds_tied_plain_at .later [] [.data] true (true, "81c76ff6fdf569a4b29dcad857822e0f4179bc4b15f98919ad32b53ee7133fe6") false
    MemStores.over (fun _ h => by cases h) (by kernel_rfl) (fun _ h => by cases h) memStores_row_tie rfl ⟨rfl, rfl⟩ (by kernel_rfl) rfl
    (fun f fn hf hfn => by
      obtain rfl : f = 7 := Option.some.inj ((show Tryd.prog.funcNamed "barbican/barbicanlaw.MemStores" = some 7 by kernel_rfl).symm.trans hf) |>.symm
      obtain rfl : fn = Tryd.f7 := (Option.some.inj (Tryd.func7.symm.trans hfn)).symm
      exact ⟨by kernel_rfl, fun j t ht => by
        rw [Tryd.params7] at ht
        rcases j with _ | _ | _ | _ | _ | j
        · obtain rfl : t = 27 := by simpa using ht.symm
          exact (show Tryd.prog.wantsStandIn 27 = false by kernel_rfl)
        · obtain rfl : t = 28 := by simpa using ht.symm
          exact (show Tryd.prog.wantsStandIn 28 = false by kernel_rfl)
        · obtain rfl : t = 3 := by simpa using ht.symm
          exact (show Tryd.prog.wantsStandIn 3 = false by kernel_rfl)
        · obtain rfl : t = 3 := by simpa using ht.symm
          exact (show Tryd.prog.wantsStandIn 3 = false by kernel_rfl)
        · obtain rfl : t = 3 := by simpa using ht.symm
          exact (show Tryd.prog.wantsStandIn 3 = false by kernel_rfl)
        · simp at ht⟩)
    (by kernel_rfl)
#print axioms memStores_holds
end Go.Proofs.YthjfnpbdmknokabDoor
