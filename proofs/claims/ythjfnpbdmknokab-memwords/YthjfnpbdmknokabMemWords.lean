/-
  THE LAW 'barbicanlaw.MemWords' IS TRUE AT EVERY INPUT: mem.Words answers what the document's answer to P3.2 says, for every image; the call returns true and the image reads as it did.
  Conditions: none.
-/
import Derived.Test.YthjfnpbdmknokabRows
import Derived.ProofKit
import Derived.OpenShut
import Derived.WalkKit
import Derived.Lib.SmallJoins
import Derived.Deep.Slices
import Derived.LaidMore
namespace Go.Proofs.Ythjfnpbdmknokab.MemWords
open Go.ChangeShapes Go.WideShapes Go.ChangeAt Go.RowKit Go.Joins

/-- the To of each part lies there -/
def Tos (w : World) (ao : Option Addr) (len : Nat) (hi : Nat → Int) : Prop := ∀ k, k < len → ∃ bl off, ao = some ⟨bl, off, none⟩ ∧ w.cell? ⟨bl, off + k * 4 + 3, none⟩ = some (.int .i64 (hi k))

/-- the To of the last part, 0 without parts -/
def last (hi : Nat → Int) : Nat → Int
  | 0 => 0
  | k + 1 => hi k

theorem below1 (w : World) (o : Obj) : Below w.heap.size w (w.alloc o) := (Below.refl _ _).alloc (Nat.le_refl _) o

theorem Tos_below {w w' : World} {ao : Option Addr} {len : Nat} {hi : Nat → Int} (h : Tos w ao len hi) (hb : Below w.heap.size w w') : Tos w' ao len hi := by
  intro k hk
  obtain ⟨bl, off, e, t⟩ := h k hk
  exact ⟨bl, off, e, (hb.cell (World.block_lt_of_cell? w _ t)).trans t⟩

theorem box1 {w w' : World} {v0 : Value} {t : TypeId} (hb : Below (w.alloc (.cells #[v0] t)).heap.size (w.alloc (.cells #[v0] t)) w') : w'.cell? ⟨w.heap.size, 0, none⟩ = some v0 :=
  (hb.cell (show (⟨w.heap.size, 0, none⟩ : Addr).block < _ by simp)).trans (by simp)

theorem words (ao : Option Addr) (len cap : Nat) (hlen : len ≤ maxLen) (hi : Nat → Int) (w : World) (hin : Tos w ao len hi) :
    Calls Try.prog 4 #[.agg #[.slice ao len cap]] w fun e w' => e = .returned (.int .i64 (last hi len)) ∧ Below w.heap.size w w' := by
  unfold maxLen at hlen
  have h2 : (len : Int) ≤ 9223372036854775807 := by omega
  rcases Nat.eq_zero_or_pos len with rfl | hpos
  · go_enter Try.func4, Try.ntmps4
    go_wp2
    go_ret
    exact ⟨rfl, below1 _ _⟩
  · have hb0 := below1 w (.cells #[.slice ao len cap] 24)
    obtain ⟨bl, off, rfl, t3⟩ := (Tos_below hin hb0) (len - 1) (by omega)
    obtain ⟨x, ex⟩ : ∃ x, x = hi (len - 1) := ⟨_, rfl⟩
    rw [← ex] at t3
    have EX : Hid (last hi len = x) := by
      rw [ex, show last hi len = last hi (len - 1 + 1) from congrArg _ (by omega)]
      exact (rfl : hi (len - 1) = _)
    have h3 : (0 : Int) < len := by omega
    clear ex hin
    go_enter Try.func4, Try.ntmps4
    go_wp2
    go_ret
    exact ⟨by rw [EX.out]; rfl, hb0⟩

theorem wordsOf (ao : Option Addr) (len cap : Nat) (hlen : len ≤ maxLen) (hi : Nat → Int) (w : World) (hin : Tos w ao len hi) :
    Calls Try.prog 5 #[.agg #[.slice ao len cap]] w fun e w' => e = .returned (.int .i64 (last hi len)) ∧ Below w.heap.size w w' := by
  unfold maxLen at hlen
  have h2 : (len : Int) ≤ 9223372036854775807 := by omega
  have hb0 := below1 w (.cells #[.slice ao len cap] 24)
  have hin2 := Tos_below hin hb0
  go_enter Try.func5, Try.ntmps5
  go_wp2
  go_loop [3, 4] (fun v i => ∃ (k : Nat) (s : Int), k ≤ len ∧ s = last hi k ∧ v = .int .i64 s ∧ i = .int .i64 k) (fun _ i => len - (intOf i).toNat)
  case atStart => exact ⟨0, 0, Nat.zero_le _, rfl, rfl, rfl⟩
  case round =>
    obtain ⟨k, s, hk, es, rfl, rfl⟩ := hrel
    by_cases hkl : k < len
    · obtain ⟨bl, off, rfl, t3⟩ := hin2 k hkl
      obtain ⟨x, ex⟩ : ∃ x, x = hi k := ⟨_, rfl⟩
      rw [← ex] at t3
      have EX : Hid (x = last hi (k + 1)) := ex
      clear ex hin hin2 es
      go_wp2
      go_round
      case rel => exact ⟨k + 1, x, by omega, EX.out, rfl, by go_num⟩
      case measure => simp [intOf]; omega
    · obtain rfl : k = len := by omega
      have ES : Hid (s = last hi k) := es
      clear hin hin2 es
      go_wp2
      go_ret
      exact ⟨by rw [← ES.out]; rfl, hb0⟩

theorem walk (ao : Option Addr) (len cap : Nat) (hlen : len ≤ maxLen) (hi : Nat → Int) (w : World) (hin : Tos w ao len hi) :
    Calls Try.prog 3 #[.agg #[.slice ao len cap]] w fun e w' => e = .returned (.bool true) ∧ Below w.heap.size w w' := by
  have k4 : ∀ w, Tos w ao len hi → _ := fun w h => words ao len cap hlen hi w h
  have k5 : ∀ w, Tos w ao len hi → _ := fun w h => wordsOf ao len cap hlen hi w h
  obtain ⟨r, er⟩ : ∃ r, r = last hi len := ⟨_, rfl⟩
  rw [← er] at k4 k5
  have hb0 := below1 w (.cells #[.slice ao len cap] 24)
  have hin1 := Tos_below hin hb0
  clear er hin hlen
  go_enter Try.func3, Try.ntmps3
  go_wp2_with (first
    | (go_at_call 4; refine (k4 _ hin1).mono ?_; rintro e w1 ⟨rfl, hb1⟩; have q0 := box1 hb1; have hin2 := Tos_below hin1 hb1; have hb2 := hb0.trans (hb1.mono hb0.size); clear hb1)
    | (go_at_call 5; refine (k5 _ hin2).mono ?_; rintro e w2 ⟨rfl, hb3⟩; have hb4 := hb2.trans (hb3.mono hb2.size)))
  go_ret
  exact ⟨rfl, hb4⟩

theorem own : ownKnob Try.prog.godebug = none := by kernel_rfl
theorem cells30 : Try.prog.cellsOf 30 = 4 := by kernel_rfl
theorem cells3 : Try.prog.cellsOf 3 = 1 := by kernel_rfl
theorem cells22 : Try.prog.cellsOf 22 = 1 := by kernel_rfl
theorem cells24 : Try.prog.cellsOf 24 = 1 := by kernel_rfl
theorem laidOut : laidOutB Try.prog = true := by kernel_rfl

theorem cut (l : List Value) (j : Nat) (v : Value) (hl : (l.drop j).take 1 = [v]) : l[j]? = some v := by
  have := congrArg (·[0]?) hl
  simpa [List.getElem?_drop] using this

section
variable {H : Type} {enc : TypeId × Value → H} {W : World} {spare : Nat → Bool} {held : Bool}

theorem parts {fuel : Nat} {cs : List Value} {x : DataW H × List MemPlace} (h : DataW.trod enc Try.prog W 0 spare held fuel 22 cs = some x) :
    ∃ (ao : Option Addr) (len cap : Nat) (hi : Nat → Int), cs = [.slice ao len cap] ∧ len ≤ maxLen ∧ Tos W ao len hi := by
  rcases Go.Deep.open_slice Try.underlying22 h with ⟨rfl, _⟩ | ⟨ad, len, cap, m, n, D, Pl, rfl, _, hle, hcap, hm, _, hel⟩
  · exact ⟨none, 0, 0, fun _ => 0, rfl, Nat.zero_le _, fun k hk => absurd hk (by omega)⟩
  · have look : ∀ i, i < len → ∃ q : Int, (∃ v, W.cell? (ad.add (i * 4 + 0)) = some v) ∧ W.cell? (ad.add (i * 4 + 3)) = some (.int .i64 q) := by
      intro i hi
      obtain ⟨cs', h1, h2⟩ := hel i (by rw [hm]; split <;> omega)
      rw [cells30] at h1
      obtain ⟨_, hlen, hcell⟩ := World.cells?_some h1
      obtain ⟨y0, y1, y2, y3, n', hx, _, g0, g1, g2, g3⟩ := trod_struct4 Try.underlying30 h2
      obtain ⟨z3, a3, _, _⟩ := DataW.trod_int Try.underlying3 g3
      simp only [cells3] at a3
      have k0 := hcell 0 (by omega)
      have k3 := hcell 3 (by omega)
      rw [Go.Deep.add_add] at k0 k3
      exact ⟨z3, ⟨_, k0.trans (List.getElem?_eq_getElem (by omega))⟩, k3.trans (cut _ _ _ a3)⟩
    have each : ∀ i, i < len → ∃ q : Int, ∃ bl off, some ad = some ⟨bl, off, none⟩ ∧ W.cell? ⟨bl, off + i * 4 + 3, none⟩ = some (.int .i64 q) := by
      intro i hi
      obtain ⟨q0, ⟨v0, t0⟩, _⟩ := look 0 (by omega)
      obtain ⟨bl, off, spot⟩ := ad
      have hspot : spot = none := by simpa [Addr.add] using World.cell?_spot t0
      subst hspot
      obtain ⟨q, _, u3⟩ := look i hi
      rw [Go.WideShapes.add_plain] at u3
      exact ⟨q, bl, off, rfl, u3⟩
    obtain ⟨q, hq⟩ := Go.Deep.choose_lt each
    exact ⟨some ad, len, cap, q, rfl, by omega, hq⟩

theorem image {b0 : Nat} {v : Value} {d : DataW H} {p : List MemPlace} (hv : Value.okWide Try.prog W .any b0 24 v) (h : DataW.Trod enc Try.prog W 0 spare held 24 v d p) :
    ∃ (ao : Option Addr) (len cap : Nat) (hi : Nat → Int), v = .agg #[.slice ao len cap] ∧ len ≤ maxLen ∧ Tos W ao len hi := by
  obtain ⟨cs, rfl, hsz⟩ := okWide_struct Try.underlying24 hv
  rw [cells24] at hsz
  obtain ⟨c0, rfl⟩ : ∃ c0, cs = #[c0] := by
    obtain ⟨l⟩ := cs
    match l, hsz with
    | [c0], _ => exact ⟨c0, rfl⟩
  obtain ⟨fuel, hf⟩ := h
  obtain ⟨y0, n, _, _, g0⟩ := trod_struct1 Try.underlying24 hf
  obtain ⟨ao, len, cap, hi, hcs, hl, hP⟩ := parts g0
  simp [Value.cells, cells22] at hcs
  exact ⟨ao, len, cap, hi, by rw [hcs], hl, hP⟩
end

set_option maxRecDepth 100000 in
theorem lifted (os : Os) (started : os.Started) (H : Type) (enc : TypeId × Value → H) :
    ReturnsInHanded {} Try.checked os 3 .any (Rows.memWordsSpec.pre6 enc Try.prog Try.f3 Rows.memWordsRow.domain false) (Rows.memWordsSpec.post enc Try.prog Try.f3 false true false false) := by
  refine returnsInHanded_of_change (C := Try.checked) own started (by kernel_rfl) Try.func3
    (ChangeSpec.witness6 (enc := enc) (C := Try.checked) false ⟨#[], #[.agg #[.slice none 0 0]], []⟩ 8 (by kernel_rfl) (by kernel_rfl) (by kernel_rfl) (by kernel_rfl)) ?_
  intro W base args ds gs before hval0 hW _ _
  have hval : ∀ (j : Nat) t v, Try.f3.params[j]? = some t → args[j]? = some v → Value.okWide Try.prog W .any base t v := hval0
  have hW' := hW
  obtain ⟨p, q, hA0, hV, rfl, hfz, hnd⟩ := hW
  have hA : DataW.TrodAll enc Try.prog W 0 (fun _ => true) true Try.f3.params.toList args.toList ds p := hA0
  rw [Try.params3] at hA hval
  obtain ⟨v0, d0, rfl, rfl, h0⟩ := trodAll_one hA
  obtain ⟨rfl, rfl⟩ := trodVars_none hV
  obtain ⟨fuel, hf⟩ := id h0
  obtain ⟨ao, len, cap, hi, rfl, hl, hin⟩ := image (hval 0 24 v0 rfl rfl) h0
  clear hA0 hval0
  simp only [List.append_nil] at hW'
  refine (walk ao len cap hl hi W hin).mono fun e W' ⟨he, hb⟩ => ?_
  subst he
  exact ⟨_, rfl, _, _, _, [], p, [], hW', trodAll_mk1 (shut_bool Try.underlying4 _), trodAll_mk1 (Below.trod laidOut (by kernel_rfl) (of_decide_eq_true (by kernel_rfl)) h0 hb (DataW.trod_lt fuel _ _ _ hf)), rfl, hb.frame _, fun h => by cases h⟩

theorem over : Rows.memWordsRow.holds Try.pinned (OpenSpec.ofChange Rows.memWordsSpec) :=
  OpenClaim.holds_of_wide 3 Try.f3 rfl rfl rfl rfl rfl rfl rfl ⟨rfl, rfl, rfl, rfl, rfl⟩ rfl rfl rfl rfl rfl (by kernel_rfl) Try.func3 (by kernel_rfl)
    (of_decide_eq_true (by kernel_rfl)) (by unfold Func.isWrapper; first | (rw [if_pos (by decide +kernel)]; kernel_rfl) | (rw [if_neg (by decide +kernel)]; exact ⟨rfl, rfl⟩))
    (fun os started H enc _ => lifted os started H enc)
end Go.Proofs.Ythjfnpbdmknokab.MemWords
namespace Go.Proofs.Ythjfnpbdmknokab
/-- THE STATEMENT -/
theorem memWords_holds : Rows.MemWordsSaid := MemWords.over
#print axioms memWords_holds
end Go.Proofs.Ythjfnpbdmknokab
