/-
  THE LAW 'barbicanlaw.CodeEncodes' IS TRUE AT EVERY INPUT: code.Encode answers what the document's answer to P2.2 says, for every list of instructions; the call returns true and the list reads as it did.
  Conditions: none beyond the row's own (the table 'code.bounds' reads as its initialiser lays it: the card ties that to the program's text).
-/
import Derived.Test.YtbddgcaobcpanaaDoorEncode
import Derived.Test.YtbddgcaobcpanaaDoorWords
import Derived.Test.YtbddgcaobcpanaaDoorSame
import Derived.Test.YtbddgcaobcpanaaDoorCards
import Derived.Test.YtbddgcaobcpanaaDoorTie
import Derived.Stop.Joined
import Derived.Deep.Slices
namespace Go.Proofs.YtbddgcaobcpanaaDoor.CodeEncodes
open Go.ChangeShapes Go.WideShapes Go.ChangeAt Go.RowKit Go.Joins Tab Go.Proofs.YtbddgcaobcpanaaDoor.Check Lists

theorem own : ownKnob Tryd.prog.godebug = none := by kernel_rfl
theorem cells23 : Tryd.prog.cellsOf 23 = 4 := by kernel_rfl

/-- the words, number by number -/
def word (o a b c : Nat → Int) (i : Nat) : Int := if i % 4 = 0 then o (i / 4) else if i % 4 = 1 then a (i / 4) else if i % 4 = 2 then b (i / 4) else c (i / 4)

theorem words_length (o a b c : Nat → Int) (n : Nat) : (words o a b c n).length = 4 * n := by
  induction n with
  | zero => rfl
  | succ n ih => simp [words, ih]; omega

theorem words_at (o a b c : Nat → Int) (n : Nat) : ∀ i, i < 4 * n → (words o a b c n)[i]? = some (.int .i64 (word o a b c i)) := by
  induction n with
  | zero => intro i hi; omega
  | succ n ih =>
    intro i hi
    have hl := words_length o a b c n
    by_cases h : i < 4 * n
    · rw [words, List.getElem?_append_left (by omega)]
      exact ih i h
    · rw [words, List.getElem?_append_right (by omega), hl]
      have hd : i / 4 = n := by omega
      rcases (show i = 4 * n ∨ i = 4 * n + 1 ∨ i = 4 * n + 2 ∨ i = 4 * n + 3 by omega) with e | e | e | e
      · have : i % 4 = 0 := by omega
        simp [word, this, hd, show i - 4 * n = 0 by omega]
      · have : i % 4 = 1 := by omega
        simp [word, this, hd, show i - 4 * n = 1 by omega]
      · have : i % 4 = 2 := by omega
        simp [word, this, hd, show i - 4 * n = 2 by omega]
      · have : i % 4 = 3 := by omega
        simp [word, this, hd, show i - 4 * n = 3 by omega]

theorem Instrs_below {w w' : World} {ao : Option Addr} {len : Nat} {o a b c : Nat → Int} (h : Instrs w ao len o a b c) (hb : Below w.heap.size w w') : Instrs w' ao len o a b c := by
  intro k hk
  obtain ⟨bl, off, e, t0, t1, t2, t3⟩ := h k hk
  have h0 := World.block_lt_of_cell? w _ t0
  exact ⟨bl, off, e, (hb.cell h0).trans t0, (hb.cell (p := ⟨bl, off + k * 4 + 1, none⟩) h0).trans t1, (hb.cell (p := ⟨bl, off + k * 4 + 2, none⟩) h0).trans t2, (hb.cell (p := ⟨bl, off + k * 4 + 3, none⟩) h0).trans t3⟩

theorem owns_base {w : World} {base base' : Nat} {e : TypeId} {size n : Nat} {v : Value} {xs : List Value} (h : w.ownsRow base e size v n xs) (hb : base' ≤ base) : w.ownsRow base' e size v n xs := by
  refine ⟨h.1, ?_⟩
  rcases h.2 with hn | ⟨g, cap, cur, e, hg, rest⟩
  · exact .inl hn
  · exact .inr ⟨g, cap, cur, e, by omega, rest⟩

theorem walk_great (ao : Option Addr) (len cap : Nat) (h : 1200 < len) (w : World) :
    Calls Tryd.prog 4 #[.slice ao len cap] w fun e w' => e = .returned (.bool true) ∧ Below w.heap.size w w' := by
  go_enter Tryd.func4, Tryd.ntmps4
  go_wp2_with (first
    | (go_at_call 8; refine (Encode.great ao len cap h _).mono ?_; rintro e w' ⟨rfl, rfl⟩)
    | (go_at_call 9; refine (Words.great ao len cap h _).mono ?_; rintro e w' ⟨rfl, rfl⟩)
    | (go_at_call 10; refine (Same.sameInts 0 0 (by omega) _ _ (fun _ => 0) [] (fun i hi => absurd hi (by omega)) _ (World.ownsRow_nil _ _ _ _) (World.ownsRow_nil _ _ _ _)).mono ?_; rintro e w' ⟨rfl, hb⟩))
  go_ret
  exact ⟨rfl, hb⟩

theorem walk_bad (ao : Option Addr) (len cap : Nat) (h : len ≤ 1200) (o a b c : Nat → Int) (w : World) (hl : Lies w) (hin : Instrs w ao len o a b c) (r : Int) (hr : first (fun k => fault (o k) (a k) (b k) (c k)) len = r) (hr0 : r ≠ 0) :
    Calls Tryd.prog 4 #[.slice ao len cap] w fun e w' => e = .returned (.bool true) ∧ Below w.heap.size w w' := by
  have k8 := Encode.encode ao len cap h o a b c w hl hin
  have k9 : ∀ w', Instrs w' ao len o a b c → _ := fun w' h' => Words.codeWords ao len cap h o a b c w' h'
  rw [hr] at k8
  simp only [hr] at k9
  have hin' : ∀ w', Below w.heap.size w w' → Instrs w' ao len o a b c := fun w' hb => Instrs_below hin hb
  clear hl hin hr
  go_enter Tryd.func4, Tryd.ntmps4
  go_wp2_with (first
    | (go_at_call 8; refine k8.mono ?_; rintro e w1 ⟨hb1, v, rfl, hx0, hx1⟩; obtain rfl := hx1 hr0; have hi1 := hin' _ hb1)
    | (go_at_call 9; refine (k9 _ hi1).mono ?_; rintro e w2 ⟨hb2, v, rfl, hy0, hy1⟩; obtain rfl := hy1 hr0)
    | (go_at_call 10; refine (Same.sameInts 0 0 (by omega) _ _ (fun _ => 0) [] (fun i hi => absurd hi (by omega)) _ (World.ownsRow_nil _ _ _ _) (World.ownsRow_nil _ _ _ _)).mono ?_; rintro e w3 ⟨rfl, hb3⟩))
  go_ret
  exact ⟨rfl, (hb1.trans (hb2.mono hb1.size)).trans (hb3.mono (Nat.le_trans hb1.size hb2.size))⟩

theorem walk_good (ao : Option Addr) (len cap : Nat) (h : len ≤ 1200) (o a b c : Nat → Int) (w : World) (hl : Lies w) (hin : Instrs w ao len o a b c) (hr : first (fun k => fault (o k) (a k) (b k) (c k)) len = 0) :
    Calls Tryd.prog 4 #[.slice ao len cap] w fun e w' => e = .returned (.bool true) ∧ Below w.heap.size w w' := by
  have k8 : Calls Tryd.prog 8 #[.slice ao len cap] w fun e w' => Below w.heap.size w w' ∧ ∃ v, e = .returned (.tuple #[v, .int .i64 0]) ∧ w'.ownsRow w.heap.size 3 1 v (4 * len) (words o a b c len) :=
    (Encode.encode ao len cap h o a b c w hl hin).mono fun e w' ⟨hb, v, he, h0, _⟩ => ⟨hb, v, by rw [he, hr], h0 hr⟩
  have k9 : ∀ w1, Instrs w1 ao len o a b c → Calls Tryd.prog 9 #[.slice ao len cap] w1 fun e w' => Below w1.heap.size w1 w' ∧ ∃ v, e = .returned (.tuple #[v, .int .i64 0]) ∧ w'.ownsRow w1.heap.size 3 1 v (4 * len) (words o a b c len) :=
    fun w1 h1 => (Words.codeWords ao len cap h o a b c w1 h1).mono fun e w' ⟨hb, v, he, h0, _⟩ => ⟨hb, v, by rw [he, hr], h0 hr⟩
  have hin' : ∀ w', Below w.heap.size w w' → Instrs w' ao len o a b c := fun w' hb => Instrs_below hin hb
  clear hl hin hr
  go_enter Tryd.func4, Tryd.ntmps4
  go_wp2_with (first
    | (go_at_call 8; refine k8.mono ?_; rintro e w1 ⟨hb1, v, rfl, hown1⟩; have hi1 := hin' _ hb1)
    | (go_at_call 9; refine (k9 _ hi1).mono ?_; rintro e w2 ⟨hb2, v2, rfl, hown2⟩; have hown4 := owns_base hown2 hb1.size; have hown3 := owns_below hown1 hb2)
    | (go_at_call 10; refine (Same.sameInts _ _ (by omega) _ _ _ _ (words_at o a b c len) _ hown3 hown4).mono ?_; rintro e w3 ⟨rfl, hb3⟩))
  go_ret
  exact ⟨rfl, (hb1.trans (hb2.mono hb1.size)).trans (hb3.mono (Nat.le_trans hb1.size hb2.size))⟩

theorem walk (ao : Option Addr) (len cap : Nat) (o a b c : Nat → Int) (w : World) (hl : Lies w) (hin : Instrs w ao len o a b c) :
    Calls Tryd.prog 4 #[.slice ao len cap] w fun e w' => e = .returned (.bool true) ∧ Below w.heap.size w w' := by
  by_cases h : len ≤ 1200
  · by_cases hr : first (fun k => fault (o k) (a k) (b k) (c k)) len = 0
    · exact walk_good ao len cap h o a b c w hl hin hr
    · exact walk_bad ao len cap h o a b c w hl hin _ rfl hr
  · exact walk_great ao len cap (by omega) w

/-- A LIST OF INSTRUCTIONS, OPENED: each of its four numbers lies where it is looked for. -/
theorem open_instrs {H : Type} {enc : TypeId × Value → H} {W : World} {spare : Nat → Bool} {held : Bool} {fuel : Nat} {cs : List Value} {x : DataW H × List MemPlace}
    (h : DataW.trod enc Tryd.prog W 0 spare held fuel 27 cs = some x) :
    ∃ (ao : Option Addr) (len cap : Nat) (o a b c : Nat → Int), cs = [.slice ao len cap] ∧ Instrs W ao len o a b c := by
  rcases Go.Deep.open_slice Tryd.underlying27 h with ⟨rfl, _⟩ | ⟨ad, len, cap, m, n, D, Pl, rfl, _, hle, _, hm, _, hel⟩
  · exact ⟨none, 0, 0, fun _ => 0, fun _ => 0, fun _ => 0, fun _ => 0, rfl, fun k hk => absurd hk (by omega)⟩
  · have cut : ∀ (l : List Value) (j : Nat) (v : Value), (l.drop j).take 1 = [v] → l[j]? = some v := by
      intro l j v hl
      have := congrArg (·[0]?) hl
      simpa [List.getElem?_drop] using this
    have look : ∀ i, i < len → ∃ q : Int × Int × Int × Int, W.cell? (ad.add (i * 4 + 0)) = some (.int .i64 q.1) ∧ W.cell? (ad.add (i * 4 + 1)) = some (.int .i64 q.2.1) ∧
        W.cell? (ad.add (i * 4 + 2)) = some (.int .i64 q.2.2.1) ∧ W.cell? (ad.add (i * 4 + 3)) = some (.int .i64 q.2.2.2) := by
      intro i hi
      obtain ⟨cs', h1, h2⟩ := hel i (by rw [hm]; split <;> omega)
      rw [cells23] at h1
      obtain ⟨_, hlen, hcell⟩ := World.cells?_some h1
      obtain ⟨y0, y1, y2, y3, n', hx, _, g0, g1, g2, g3⟩ := trod_struct4 Tryd.underlying23 h2
      obtain ⟨z0, a0, _, _⟩ := DataW.trod_int Tryd.underlying3 g0
      obtain ⟨z1, a1, _, _⟩ := DataW.trod_int Tryd.underlying3 g1
      obtain ⟨z2, a2, _, _⟩ := DataW.trod_int Tryd.underlying3 g2
      obtain ⟨z3, a3, _, _⟩ := DataW.trod_int Tryd.underlying3 g3
      simp only [cells3] at a0 a1 a2 a3
      have k0 := hcell 0 (by omega)
      have k1 := hcell 1 (by omega)
      have k2 := hcell 2 (by omega)
      have k3 := hcell 3 (by omega)
      rw [Go.Deep.add_add] at k0 k1 k2 k3
      exact ⟨(z0, z1, z2, z3), k0.trans (cut _ _ _ a0), k1.trans (cut _ _ _ a1), k2.trans (cut _ _ _ a2), k3.trans (cut _ _ _ a3)⟩
    have each : ∀ i, i < len → ∃ q : Int × Int × Int × Int, ∃ bl off, ad = ⟨bl, off, none⟩ ∧ W.cell? ⟨bl, off + i * 4, none⟩ = some (.int .i64 q.1) ∧ W.cell? ⟨bl, off + i * 4 + 1, none⟩ = some (.int .i64 q.2.1) ∧
        W.cell? ⟨bl, off + i * 4 + 2, none⟩ = some (.int .i64 q.2.2.1) ∧ W.cell? ⟨bl, off + i * 4 + 3, none⟩ = some (.int .i64 q.2.2.2) := by
      intro i hi
      obtain ⟨q0, t0, _⟩ := look 0 (by omega)
      obtain ⟨bl, off, spot⟩ := ad
      have hspot : spot = none := by simpa [Addr.add] using World.cell?_spot t0
      subst hspot
      obtain ⟨q, u0, u1, u2, u3⟩ := look i hi
      rw [Go.WideShapes.add_plain] at u0 u1 u2 u3
      exact ⟨q, bl, off, rfl, u0, u1, u2, u3⟩
    obtain ⟨q, hq⟩ := Go.Deep.choose_lt each
    refine ⟨some ad, len, cap, fun i => (q i).1, fun i => (q i).2.1, fun i => (q i).2.2.1, fun i => (q i).2.2.2, rfl, fun k hk => ?_⟩
    obtain ⟨bl, off, rfl, t⟩ := hq k hk
    exact ⟨bl, off, rfl, t⟩

theorem laidOut : laidOutB Tryd.prog = true := by kernel_rfl

set_option maxRecDepth 100000 in
theorem lifted (os : Os) (started : os.Started) (H : Type) (enc : TypeId × Value → H) :
    ReturnsInHanded {} Tryd.checked os 4 .any (fun w args => (Rows.codeEncodesSpec.pre enc Tryd.prog Tryd.f4 [] false w args ∧ laidMetH Tryd.prog [("barbican/code.bounds", Rows.laid_barbican_code_bounds)] w) ∧ sizedMet enc Tryd.prog Tryd.f4 (OpenSpec.ofChange Rows.codeEncodesSpec) false w args)
      (Rows.codeEncodesSpec.post enc Tryd.prog Tryd.f4 false true false false) := by
  refine returnsInHanded_of_change_and (C := Tryd.checked) (X := fun w _ => laidMetH Tryd.prog [("barbican/code.bounds", Rows.laid_barbican_code_bounds)] w) (fun _ _ _ hh h => h.of_heap hh) own started (by kernel_rfl) Tryd.func4
    (ChangeSpec.witness_shaped (enc := enc) (C := Tryd.checked) (os := os) (X := fun w _ => laidMetH Tryd.prog [("barbican/code.bounds", Rows.laid_barbican_code_bounds)] w) false (World.doorLaid Tryd.prog 29 os) #[.slice none 0 0] 8 rfl (World.shaped_of_RefB (by kernel_rfl) (by kernel_rfl)) (by kernel_rfl) (by kernel_rfl) (by kernel_rfl)
      (laidMetH_of_parts3 (fuel := 8) (laidMet_of_run' 8 (by kernel_rfl) (by kernel_rfl)) (by kernel_rfl) (by kernel_rfl))) ?_
  intro W base args ds gs before hval0 hW _ _ hL _
  have hval : ∀ (j : Nat) t v, Tryd.f4.params[j]? = some t → args[j]? = some v → Value.okWide Tryd.prog W .any base t v := hval0
  have hW' := hW
  obtain ⟨p, q, hA0, hV, rfl, hfz, hnd⟩ := hW
  have hA : DataW.TrodAll enc Tryd.prog W 0 (fun _ => true) true Tryd.f4.params.toList args.toList ds p := hA0
  rw [Tryd.params4] at hA hval
  obtain ⟨v0, d0, rfl, rfl, h0⟩ := trodAll_one hA
  obtain ⟨rfl, rfl⟩ := trodVars_none hV
  obtain ⟨fuel, hf⟩ := id h0
  obtain ⟨ao, len, cap, rfl⟩ := okWide_slice Tryd.underlying27 (hval 0 27 v0 rfl rfl)
  obtain ⟨ao', len', cap', o, a, b, c, hcs, hin⟩ := open_instrs hf
  obtain ⟨rfl, rfl, rfl⟩ : ao = ao' ∧ len = len' ∧ cap = cap' := by simpa [Value.cells] using hcs
  clear hA0 hval0
  simp only [List.append_nil] at hW'
  refine (walk ao len cap o a b c W (lies hL) hin).mono fun e W' ⟨he, hb⟩ => ?_
  subst he
  exact ⟨_, rfl, _, _, _, [], p, [], hW', trodAll_mk1 (shut_bool Tryd.underlying4 _), trodAll_mk1 (Below.trod laidOut (by kernel_rfl) (of_decide_eq_true (by kernel_rfl)) h0 hb (DataW.trod_lt fuel _ _ _ hf)), rfl, hb.frame _, fun h => by cases h⟩

theorem over : Rows.codeEncodesRow.holds Tryd.pinned (OpenSpec.ofChange Rows.codeEncodesSpec) :=
  OpenClaim.holds_of_wide 4 Tryd.f4 rfl rfl rfl rfl rfl rfl rfl ⟨rfl, rfl, rfl, rfl, rfl⟩ rfl rfl rfl rfl rfl (by kernel_rfl) Tryd.func4 (by kernel_rfl)
    (of_decide_eq_true (by kernel_rfl)) (by unfold Func.isWrapper; first | (rw [if_pos (by decide +kernel)]; kernel_rfl) | (rw [if_neg (by decide +kernel)]; exact ⟨rfl, rfl⟩))
    (fun os started H enc _ => lifted os started H enc)
end Go.Proofs.YtbddgcaobcpanaaDoor.CodeEncodes
namespace Go.Proofs.YtbddgcaobcpanaaDoor
/-- THE STATEMENT -/
theorem codeEncodes_holds : Rows.CodeEncodesCardSaid :=
  Claim7.holds_tied_plain_at .later [] [.data] true (true, "bcd55fd923ceef7823c7473886b5fb5aaaf9a0bf1d6e304f7b2d5738af274b6a") false
    CodeEncodes.over (fun _ h => by cases h) (by kernel_rfl) (fun _ h => by cases h) codeEncodes_row_tie rfl ⟨rfl, rfl⟩ (by kernel_rfl) rfl
    (fun f fn hf hfn => by
      obtain rfl : f = 4 := Option.some.inj ((show Tryd.prog.funcNamed "barbican/barbicanlaw.CodeEncodes" = some 4 by kernel_rfl).symm.trans hf) |>.symm
      obtain rfl : fn = Tryd.f4 := (Option.some.inj (Tryd.func4.symm.trans hfn)).symm
      exact ⟨by kernel_rfl, fun j t ht => by
        rw [Tryd.params4] at ht
        have h3 : t = 27 := by
          rcases j with _ | j
          · simpa using ht.symm
          · simp at ht
        subst h3
        exact (show Tryd.prog.wantsStandIn 27 = false by kernel_rfl)⟩)
    (by kernel_rfl)
#print axioms codeEncodes_holds
end Go.Proofs.YtbddgcaobcpanaaDoor
