/-
  THE LAW 'barbicanlaw.CodeDecodes' IS TRUE AT EVERY INPUT: code.Decode answers what the document's answer to P2.3 says, for every list of numbers; the call returns true and the list reads as it did.
  Conditions: none beyond the row's own (the table 'code.bounds' reads as its initialiser lays it: the card ties that to the program's text).
-/
import Derived.Test.YtbddgcaobcpanaaDoorDecode
import Derived.Test.YtbddgcaobcpanaaDoorCodeOf
import Derived.Test.YtbddgcaobcpanaaDoorSameCode
import Derived.Test.YtbddgcaobcpanaaDoorCards
import Derived.Test.YtbddgcaobcpanaaDoorTie
import Derived.Stop.Joined
import Derived.Deep.Slices
namespace Go.Proofs.YtbddgcaobcpanaaDoor.CodeDecodes
open Go.ChangeShapes Go.WideShapes Go.ChangeAt Go.RowKit Go.Joins Tab Go.Proofs.YtbddgcaobcpanaaDoor.Check Lists Go.Proofs.YtbddgcaobcpanaaDoor.Read

theorem own : ownKnob Tryd.prog.godebug = none := by kernel_rfl

theorem owns_base {w : World} {base base' : Nat} {e : TypeId} {size n : Nat} {v : Value} {xs : List Value} (h : w.ownsRow base e size v n xs) (hb : base' ≤ base) : w.ownsRow base' e size v n xs := by
  refine ⟨h.1, ?_⟩
  rcases h.2 with hn | ⟨g, cap, cur, e, hg, rest⟩
  · exact .inl hn
  · exact .inr ⟨g, cap, cur, e, by omega, rest⟩

theorem nothing (w : World) (z : Nat → Int) : w.ownsRow 0 23 4 (.slice none 0 0) 0 (words z z z z 0) := World.ownsRow_nil _ _ _ _

theorem walk_great (ao : Option Addr) (len cap : Nat) (h : 4800 < len) (w : World) :
    Calls Tryd.prog 5 #[.slice ao len cap] w fun e w' => e = .returned (.bool true) ∧ Below w.heap.size w w' := by
  go_enter Tryd.func5, Tryd.ntmps5
  go_wp2_with (first
    | (go_at_call 11; refine (Decode.great ao len cap h _).mono ?_; rintro e w' ⟨rfl, rfl⟩)
    | (go_at_call 12; refine (CodeOf.great ao len cap h _).mono ?_; rintro e w' ⟨rfl, rfl⟩)
    | (go_at_call 13; refine (SameCode.sameCode 0 0 (by omega) _ _ _ _ _ _ _ (nothing _ fun _ => 0) (nothing _ fun _ => 0)).mono ?_; rintro e w' ⟨rfl, hb⟩))
  go_ret
  exact ⟨rfl, hb⟩

theorem walk_form (ao : Option Addr) (len cap : Nat) (h : len ≤ 4800) (h4 : len % 4 ≠ 0) (w : World) :
    Calls Tryd.prog 5 #[.slice ao len cap] w fun e w' => e = .returned (.bool true) ∧ Below w.heap.size w w' := by
  have k11 := fun w => Decode.form ao len cap h h4 w
  have k12 := fun w => CodeOf.form ao len cap h h4 w
  clear h4
  go_enter Tryd.func5, Tryd.ntmps5
  go_wp2_with (first
    | (go_at_call 11; refine (k11 _).mono ?_; rintro e w' ⟨rfl, rfl⟩)
    | (go_at_call 12; refine (k12 _).mono ?_; rintro e w' ⟨rfl, rfl⟩)
    | (go_at_call 13; refine (SameCode.sameCode 0 0 (by omega) _ _ _ _ _ _ _ (nothing _ fun _ => 0) (nothing _ fun _ => 0)).mono ?_; rintro e w' ⟨rfl, hb⟩))
  go_ret
  exact ⟨rfl, hb⟩

theorem walk_good (ao : Option Addr) (n cap : Nat) (hn : n ≤ 1200) (z : Nat → Int) (w : World) (hl : Lies w) (hin : Ints w ao (4 * n) z) (f : Nat → Int) (hf : ∀ k, f k = faultRead (z (4 * k)) (z (4 * k + 1)) (z (4 * k + 2)) (z (4 * k + 3))) (hr : first f n = 0) :
    Calls Tryd.prog 5 #[.slice ao (4 * n) cap] w fun e w' => e = .returned (.bool true) ∧ Below w.heap.size w w' := by
  obtain ⟨xs, hxs⟩ : ∃ xs, xs = words (fun k => z (4 * k)) (fun k => z (4 * k + 1)) (fun k => z (4 * k + 2)) (fun k => z (4 * k + 3)) n := ⟨_, rfl⟩
  have k11 : Calls Tryd.prog 11 #[.slice ao (4 * n) cap] w fun e w' => Below w.heap.size w w' ∧ ∃ v, e = .returned (.tuple #[v, .int .i64 0]) ∧ w'.ownsRow w.heap.size 23 4 v n xs :=
    (Decode.decode ao n cap hn z w hl hin f hf).mono fun e w' ⟨hb, v, he, h0, _⟩ => ⟨hb, v, by rw [he, hr], by rw [hxs]; exact h0 hr⟩
  have k12 : ∀ w1, Ints w1 ao (4 * n) z → Calls Tryd.prog 12 #[.slice ao (4 * n) cap] w1 fun e w' => Below w1.heap.size w1 w' ∧ ∃ v, e = .returned (.tuple #[v, .int .i64 0]) ∧ w'.ownsRow w1.heap.size 23 4 v n xs :=
    fun w1 h1 => (CodeOf.codeOf ao n cap hn z w1 h1 f hf).mono fun e w' ⟨hb, v, he, h0, _⟩ => ⟨hb, v, by rw [he, hr], by rw [hxs]; exact h0 hr⟩
  have k13 : ∀ B v v' w, World.ownsRow w B 23 4 v n xs → World.ownsRow w B 23 4 v' n xs → Calls Tryd.prog 13 #[v, v'] w fun e w' => e = .returned (.bool true) ∧ Below w.heap.size w w' := by
    rw [hxs]
    exact fun B v v' w h h' => SameCode.sameCode B n (by omega) v v' _ _ _ _ w h h'
  have hin' : ∀ w', Below w.heap.size w w' → Ints w' ao (4 * n) z := fun w' hb => Ints_below hin hb
  clear hl hin hr hf hxs
  generalize 4 * n = len at *
  go_enter Tryd.func5, Tryd.ntmps5
  go_wp2_with (first
    | (go_at_call 11; refine k11.mono ?_; rintro e w1 ⟨hb1, v, rfl, hown1⟩; have hi1 := hin' _ hb1)
    | (go_at_call 12; refine (k12 _ hi1).mono ?_; rintro e w2 ⟨hb2, v2, rfl, hown2⟩; have hown4 := owns_base hown2 hb1.size; have hown3 := owns_below hown1 hb2)
    | (go_at_call 13; refine (k13 _ _ _ _ hown3 hown4).mono ?_; rintro e w3 ⟨rfl, hb3⟩))
  go_ret
  exact ⟨rfl, (hb1.trans (hb2.mono hb1.size)).trans (hb3.mono (Nat.le_trans hb1.size hb2.size))⟩

theorem walk_bad (ao : Option Addr) (n cap : Nat) (hn : n ≤ 1200) (z : Nat → Int) (w : World) (hl : Lies w) (hin : Ints w ao (4 * n) z) (f : Nat → Int) (hf : ∀ k, f k = faultRead (z (4 * k)) (z (4 * k + 1)) (z (4 * k + 2)) (z (4 * k + 3))) (r : Int) (hr : first f n = r) (hr0 : r ≠ 0) :
    Calls Tryd.prog 5 #[.slice ao (4 * n) cap] w fun e w' => e = .returned (.bool true) ∧ Below w.heap.size w w' := by
  have k11 : Calls Tryd.prog 11 #[.slice ao (4 * n) cap] w fun e w' => Below w.heap.size w w' ∧ e = .returned (.tuple #[.slice none 0 0, .int .i64 r]) :=
    (Decode.decode ao n cap hn z w hl hin f hf).mono fun e w' ⟨hb, v, he, _, h0⟩ => ⟨hb, by rw [he, h0 (by rw [hr]; exact hr0), hr]⟩
  have k12 : ∀ w1, Ints w1 ao (4 * n) z → Calls Tryd.prog 12 #[.slice ao (4 * n) cap] w1 fun e w' => Below w1.heap.size w1 w' ∧ e = .returned (.tuple #[.slice none 0 0, .int .i64 r]) :=
    fun w1 h1 => (CodeOf.codeOf ao n cap hn z w1 h1 f hf).mono fun e w' ⟨hb, v, he, _, h0⟩ => ⟨hb, by rw [he, h0 (by rw [hr]; exact hr0), hr]⟩
  have hin' : ∀ w', Below w.heap.size w w' → Ints w' ao (4 * n) z := fun w' hb => Ints_below hin hb
  clear hl hin hr hf
  generalize 4 * n = len at *
  go_enter Tryd.func5, Tryd.ntmps5
  go_wp2_with (first
    | (go_at_call 11; refine k11.mono ?_; rintro e w1 ⟨hb1, rfl⟩; have hi1 := hin' _ hb1)
    | (go_at_call 12; refine (k12 _ hi1).mono ?_; rintro e w2 ⟨hb2, rfl⟩)
    | (go_at_call 13; refine (SameCode.sameCode 0 0 (by omega) _ _ _ _ _ _ _ (nothing _ fun _ => 0) (nothing _ fun _ => 0)).mono ?_; rintro e w3 ⟨rfl, hb3⟩))
  go_ret
  exact ⟨rfl, (hb1.trans (hb2.mono hb1.size)).trans (hb3.mono (Nat.le_trans hb1.size hb2.size))⟩

theorem walk (ao : Option Addr) (len cap : Nat) (z : Nat → Int) (w : World) (hl : Lies w) (hin : Ints w ao len z) :
    Calls Tryd.prog 5 #[.slice ao len cap] w fun e w' => e = .returned (.bool true) ∧ Below w.heap.size w w' := by
  by_cases h : len ≤ 4800
  · by_cases h4 : len % 4 = 0
    · obtain ⟨n, rfl⟩ : ∃ n, len = 4 * n := ⟨len / 4, by omega⟩
      by_cases hr : first (fun k => faultRead (z (4 * k)) (z (4 * k + 1)) (z (4 * k + 2)) (z (4 * k + 3))) n = 0
      · exact walk_good ao n cap (by omega) z w hl hin _ (fun _ => rfl) hr
      · exact walk_bad ao n cap (by omega) z w hl hin _ (fun _ => rfl) _ rfl hr
    · exact walk_form ao len cap h h4 w
  · exact walk_great ao len cap (by omega) w

/-- A LIST OF NUMBERS, OPENED: each lies where it is looked for. -/
theorem open_numbers {H : Type} {enc : TypeId × Value → H} {W : World} {spare : Nat → Bool} {held : Bool} {fuel : Nat} {cs : List Value} {x : DataW H × List MemPlace}
    (h : DataW.trod enc Tryd.prog W 0 spare held fuel 28 cs = some x) :
    ∃ (ao : Option Addr) (len cap : Nat) (z : Nat → Int), cs = [.slice ao len cap] ∧ Ints W ao len z := by
  rcases Go.Deep.open_slice1 Tryd.underlying28 cells3 h with ⟨rfl, _⟩ | ⟨ad, len, cap, m, n, V, D, Pl, rfl, _, hle, _, hm, _, hel⟩
  · exact ⟨none, 0, 0, fun _ => 0, rfl, fun k hk => absurd hk (by omega)⟩
  · have each : ∀ i, i < len → ∃ q : Int, W.cell? (ad.add i) = some (.int .i64 q) := by
      intro i hi
      obtain ⟨h1, h2⟩ := hel i (by rw [hm]; split <;> omega)
      obtain ⟨z0, a0, _, _⟩ := DataW.trod_int Tryd.underlying3 h2
      simp at a0
      exact ⟨z0, by rw [h1, a0]⟩
    obtain ⟨z, hz⟩ := Go.Deep.choose_lt each
    refine ⟨some ad, len, cap, z, rfl, fun k hk => ?_⟩
    obtain ⟨bl, off, spot⟩ := ad
    have hspot : spot = none := by simpa [Addr.add] using World.cell?_spot (hz 0 (by omega))
    subst hspot
    exact ⟨bl, off, rfl, fun j hj => by rw [← Go.WideShapes.add_plain]; exact hz j hj⟩

theorem laidOut : laidOutB Tryd.prog = true := by kernel_rfl

set_option maxRecDepth 100000 in
theorem lifted (os : Os) (started : os.Started) (H : Type) (enc : TypeId × Value → H) :
    ReturnsInHanded {} Tryd.checked os 5 .any (fun w args => (Rows.codeDecodesSpec.pre enc Tryd.prog Tryd.f5 [] false w args ∧ laidMetH Tryd.prog [("barbican/code.bounds", Rows.laid_barbican_code_bounds)] w) ∧ sizedMet enc Tryd.prog Tryd.f5 (OpenSpec.ofChange Rows.codeDecodesSpec) false w args)
      (Rows.codeDecodesSpec.post enc Tryd.prog Tryd.f5 false true false false) := by
  refine returnsInHanded_of_change_and (C := Tryd.checked) (X := fun w _ => laidMetH Tryd.prog [("barbican/code.bounds", Rows.laid_barbican_code_bounds)] w) (fun _ _ _ hh h => h.of_heap hh) own started (by kernel_rfl) Tryd.func5
    (ChangeSpec.witness_shaped (enc := enc) (C := Tryd.checked) (os := os) (X := fun w _ => laidMetH Tryd.prog [("barbican/code.bounds", Rows.laid_barbican_code_bounds)] w) false (World.doorLaid Tryd.prog 29 os) #[.slice none 0 0] 8 rfl (World.shaped_of_RefB (by kernel_rfl) (by kernel_rfl)) (by kernel_rfl) (by kernel_rfl) (by kernel_rfl)
      (laidMetH_of_parts3 (fuel := 8) (laidMet_of_run' 8 (by kernel_rfl) (by kernel_rfl)) (by kernel_rfl) (by kernel_rfl))) ?_
  intro W base args ds gs before hval0 hW _ _ hL _
  have hval : ∀ (j : Nat) t v, Tryd.f5.params[j]? = some t → args[j]? = some v → Value.okWide Tryd.prog W .any base t v := hval0
  have hW' := hW
  obtain ⟨p, q, hA0, hV, rfl, hfz, hnd⟩ := hW
  have hA : DataW.TrodAll enc Tryd.prog W 0 (fun _ => true) true Tryd.f5.params.toList args.toList ds p := hA0
  rw [Tryd.params5] at hA hval
  obtain ⟨v0, d0, rfl, rfl, h0⟩ := trodAll_one hA
  obtain ⟨rfl, rfl⟩ := trodVars_none hV
  obtain ⟨fuel, hf⟩ := id h0
  obtain ⟨ao, len, cap, rfl⟩ := okWide_slice Tryd.underlying28 (hval 0 28 v0 rfl rfl)
  obtain ⟨ao', len', cap', z, hcs, hin⟩ := open_numbers hf
  obtain ⟨rfl, rfl, rfl⟩ : ao = ao' ∧ len = len' ∧ cap = cap' := by simpa [Value.cells] using hcs
  clear hA0 hval0
  simp only [List.append_nil] at hW'
  refine (walk ao len cap z W (lies hL) hin).mono fun e W' ⟨he, hb⟩ => ?_
  subst he
  exact ⟨_, rfl, _, _, _, [], p, [], hW', trodAll_mk1 (shut_bool Tryd.underlying4 _), trodAll_mk1 (Below.trod laidOut (by kernel_rfl) (of_decide_eq_true (by kernel_rfl)) h0 hb (DataW.trod_lt fuel _ _ _ hf)), rfl, hb.frame _, fun h => by cases h⟩

theorem over : Rows.codeDecodesRow.holds Tryd.pinned (OpenSpec.ofChange Rows.codeDecodesSpec) :=
  OpenClaim.holds_of_wide 5 Tryd.f5 rfl rfl rfl rfl rfl rfl rfl ⟨rfl, rfl, rfl, rfl, rfl⟩ rfl rfl rfl rfl rfl (by kernel_rfl) Tryd.func5 (by kernel_rfl)
    (of_decide_eq_true (by kernel_rfl)) (by unfold Func.isWrapper; first | (rw [if_pos (by decide +kernel)]; kernel_rfl) | (rw [if_neg (by decide +kernel)]; exact ⟨rfl, rfl⟩))
    (fun os started H enc _ => lifted os started H enc)
end Go.Proofs.YtbddgcaobcpanaaDoor.CodeDecodes
namespace Go.Proofs.YtbddgcaobcpanaaDoor
/-- THE STATEMENT -/
theorem codeDecodes_holds : Rows.CodeDecodesCardSaid :=
  Claim7.holds_tied_plain_at .later [] [.data] true (true, "bcd55fd923ceef7823c7473886b5fb5aaaf9a0bf1d6e304f7b2d5738af274b6a") false
    CodeDecodes.over (fun _ h => by cases h) (by kernel_rfl) (fun _ h => by cases h) codeDecodes_row_tie rfl ⟨rfl, rfl⟩ (by kernel_rfl) rfl
    (fun f fn hf hfn => by
      obtain rfl : f = 5 := Option.some.inj ((show Tryd.prog.funcNamed "barbican/barbicanlaw.CodeDecodes" = some 5 by kernel_rfl).symm.trans hf) |>.symm
      obtain rfl : fn = Tryd.f5 := (Option.some.inj (Tryd.func5.symm.trans hfn)).symm
      exact ⟨by kernel_rfl, fun j t ht => by
        rw [Tryd.params5] at ht
        have h3 : t = 28 := by
          rcases j with _ | j
          · simpa using ht.symm
          · simp at ht
        subst h3
        exact (show Tryd.prog.wantsStandIn 28 = false by kernel_rfl)⟩)
    (by kernel_rfl)
#print axioms codeDecodes_holds
end Go.Proofs.YtbddgcaobcpanaaDoor
