/-
  WHAT barbicankeep.number GIVES: a number that is a word.
  Conditions: the raw thing's numbers are those of an int.
-/
import Derived.Test.YtgjemlhnlpglbaaDoorR4
import Derived.Deep.RegionHeld3
namespace Go.Proofs.YtgjemlhnlpglbaaDoor.PNumber
open Go.RowKit PPlain PRaw Trees

/-- a number, as an expression -/
def num (n : Int) : Value := .agg #[.int .i64 1, .int .i64 n, .string ⟨#[]⟩, .string ⟨#[]⟩, .slice none 0 0]

/-- that is a word -/
def isNum (v : Value) : Prop := ∃ n : Int, (0 ≤ n ∧ n ≤ 65535) ∧ v = .agg #[.int .i64 1, .int .i64 n, .string ⟨#[]⟩, .string ⟨#[]⟩, .slice none 0 0]
theorem isNum_of (n : Int) (h0 : 0 ≤ n) (h : n ≤ 65535) : isNum (num n) := ⟨n, ⟨h0, h⟩, rfl⟩

set_option maxRecDepth 100000 in
set_option maxHeartbeats 1000000 in
theorem number (r : RawD) (hr : r.fits) (w : World) :
    Calls Tryd.prog 33 #[.agg #[.int .i64 r.k, .int .i64 r.a, .int .i64 r.b, .int .i64 r.c]] w fun e w' => (∃ v, e = .returned v ∧ isNum v) ∧ Below w.heap.size w w' := by
  obtain ⟨_, ha, hb, hc⟩ := hr
  have kp : ∀ (n m : Int) (W : World), _ := picked
  have l6 := pk_bd r.a 6 (by decide)
  have l4 := pk_bd r.c 4 (by decide)
  have FT : Hid (int64 r.a ∧ int64 r.b ∧ int64 r.c) := ⟨ha, hb, hc⟩
  obtain ⟨rk, ra, rb, rc⟩ := r
  dsimp only at *
  have L6 : Hid (0 ≤ pk ra 6 ∧ pk ra 6 < 6) := l6
  have KP : Hid _ := kp
  clear l6 ha hb hc kp
  by_cases hy : pk rb 7 = 0
  · obtain hz | hz | hz | hz : pk rc 4 = 0 ∨ pk rc 4 = 1 ∨ pk rc 4 = 2 ∨ pk rc 4 = 3 := by omega
    all_goals
      clear l4
      go_enter Tryd.func33, Tryd.ntmps33
      go_wp2_with (go_at_call 8; refine (KP.out _ _ _ (by first | exact FT.out.1 | exact FT.out.2.1 | exact FT.out.2.2) (by decide) (by decide)).mono ?_; rintro e w1 ⟨rfl, rfl⟩)
      exact answers rfl rfl (got_old _ _ (got2 w _ _)) rfl rfl ⟨⟨_, rfl, isNum_of _ (by decide) (by decide)⟩, below_aaa _ _ _ _⟩
  · have hy2 : (pk rb 7 == 0) = false := beq_eq_false_iff_ne.2 hy
    clear hy l4
    go_enter Tryd.func33, Tryd.ntmps33
    go_wp2_with (go_at_call 8; refine (KP.out _ _ _ (by first | exact FT.out.1 | exact FT.out.2.1 | exact FT.out.2.2) (by decide) (by decide)).mono ?_; rintro e w1 ⟨rfl, rfl⟩)
    exact answers rfl rfl (got2 w _ _) rfl rfl ⟨⟨_, rfl, isNum_of _ L6.out.1 (by have := L6.out.2; omega)⟩, below_aa _ _ _⟩
end Go.Proofs.YtgjemlhnlpglbaaDoor.PNumber
