/-
  WHAT (names.scope).named GIVES: whether what an expression names by itself is there (P7.2).
  Conditions: the scope's functions find what is there.
-/
import Derived.Test.YtgjemlhnlpglbaaDoorR29
namespace Go.Proofs.YtgjemlhnlpglbaaDoor.NNamed
open Go.RowKit NPlace NPlain NUnits NLists Go.Proofs.YtgjemlhnlpglbaaDoor.Ident Trees NSense NScope NAsk

/-- what a scope's functions find -/
structure Scope (B : World) (la ar pu pp : Value) (len : Nat) (U : Nat → UnitD) (u : UnitD) (f : FuncD) : Prop where
  var : ∀ W s, Below B.heap.size B W → Calls Tryd.prog 62 #[la, .string s] W fun e w' => e = .returned (.bool (varThere u f s)) ∧ Below W.heap.size W w'
  arr : ∀ W s, Below B.heap.size B W → Calls Tryd.prog 62 #[ar, .string s] W fun e w' => e = .returned (.bool (arrayThere u s)) ∧ Below W.heap.size W w'
  fn : ∀ W of s, Below B.heap.size B W → Calls Tryd.prog 63 #[.string of, .string s, pu, pp] W fun e w' => (∃ (g : FuncD) (b : Bool), e = .returned (.tuple #[.agg #[.string g.name, .bool g.op, .slice g.pa g.pl g.pc, .slice g.ba g.bl g.bc], .bool b]) ∧ ((b = true ∧ asked len U u of s = some g) ∨ (b = false ∧ asked len U u of s = none))) ∧ Below W.heap.size W w'

theorem two_cells {w W : World} {t t' : TypeId} {v0 v1 v2 y0 y1 y2 y3 y4 : Value} (hb : Below ((w.alloc (.cells #[v0, v1, v2] t)).alloc (.cells #[y0, y1, y2, y3, y4] t')).heap.size ((w.alloc (.cells #[v0, v1, v2] t)).alloc (.cells #[y0, y1, y2, y3, y4] t')) W) :
    (W.cell? ⟨w.heap.size, 0, none⟩ = some v0 ∧ W.cell? ⟨w.heap.size, 1, none⟩ = some v1 ∧ W.cell? ⟨w.heap.size, 2, none⟩ = some v2) ∧ (W.cell? ⟨w.heap.size + 1, 0, none⟩ = some y0 ∧ W.cell? ⟨w.heap.size + 1, 1, none⟩ = some y1 ∧ W.cell? ⟨w.heap.size + 1, 2, none⟩ = some y2 ∧ W.cell? ⟨w.heap.size + 1, 3, none⟩ = some y3 ∧ W.cell? ⟨w.heap.size + 1, 4, none⟩ = some y4) := by
  have h0 : ∀ i : Nat, (⟨w.heap.size, i, none⟩ : Addr).block < ((w.alloc (.cells #[v0, v1, v2] t)).alloc (.cells #[y0, y1, y2, y3, y4] t')).heap.size := fun i => by simp; omega
  have h1 : ∀ i : Nat, (⟨w.heap.size + 1, i, none⟩ : Addr).block < ((w.alloc (.cells #[v0, v1, v2] t)).alloc (.cells #[y0, y1, y2, y3, y4] t')).heap.size := fun i => by simp
  refine ⟨⟨(hb.cell (h0 0)).trans ?_, (hb.cell (h0 1)).trans ?_, (hb.cell (h0 2)).trans ?_⟩, ⟨(hb.cell (h1 0)).trans ?_, (hb.cell (h1 1)).trans ?_, (hb.cell (h1 2)).trans ?_, (hb.cell (h1 3)).trans ?_, (hb.cell (h1 4)).trans ?_⟩⟩
  · exact past (by simp) _
  · exact past (by simp) _
  · exact past (by simp) _
  all_goals simp

set_option maxHeartbeats 2000000 in
theorem named {B : World} {la ar pu pp : Value} {len : Nat} {U : Nat → UnitD} {u : UnitD} {f : FuncD} (hS : Scope B la ar pu pp len U u f) (w : World) (hb : Below B.heap.size B w) (x : ENode) (hx : x.len ≤ maxLen) :
    Calls Tryd.prog 83 #[.agg #[.func (.func 62) #[la] #[], .func (.func 62) #[ar] #[], .func (.func 63) #[] #[pu, pp]], .agg #[.int .i64 x.kind, .int .i64 x.n, .string x.of, .string x.s, .slice x.ao x.len x.cap]] w fun e w' => e = .returned (.int .i64 (nameFault len U u f x)) ∧ Below w.heap.size w w' := by
  have NF : Hid (nameFault len U u f x = if x.kind = 2 then (if varThere u f x.s = true then 0 else 5) else if x.kind = 3 then (if arrayThere u x.s = true then 0 else 5) else if x.kind = 4 then (match asked len U u x.of x.s with | some g => if g.pl = x.len then 0 else 7 | none => 5) else 0) := (rfl : nameFault len U u f x = _)
  have kv : ∀ W, Below w.heap.size w W → _ := fun W h => hS.var W x.s (hb.trans (h.mono hb.size))
  have ka : ∀ W, Below w.heap.size w W → _ := fun W h => hS.arr W x.s (hb.trans (h.mono hb.size))
  have kf : ∀ W, Below w.heap.size w W → _ := fun W h => hS.fn W x.of x.s (hb.trans (h.mono hb.size))
  have e43 := Tryd.call62
  have e44 := Tryd.call63
  obtain ⟨nf, enf⟩ : ∃ n, n = nameFault len U u f x := ⟨_, rfl⟩
  rw [← enf] at NF ⊢
  generalize varThere u f x.s = bv at kv NF
  generalize arrayThere u x.s = ba at ka NF
  generalize asked len U u x.of x.s = ao' at kf NF
  obtain ⟨kind, n, of, s, ao, alen, acap⟩ := x
  dsimp only at *
  unfold maxLen at hx
  have hxI : (alen : Int) ≤ 9223372036854775807 := by omega
  have hb2 := below2 w (.cells #[.func (.func 62) #[la] #[], .func (.func 62) #[ar] #[], .func (.func 63) #[] #[pu, pp]] 100) (.cells #[.int .i64 kind, .int .i64 n, .string of, .string s, .slice ao alen acap] 29)
  have HB2 : Hid _ := hb2
  have KV : Hid _ := kv
  have KA : Hid _ := ka
  have KF : Hid _ := kf
  clear hb2 kv ka kf hb hS hx enf
  by_cases h2 : kind = 2
  · subst h2
    cases bv
    · have E : Hid (nf = 5) := NF.out
      clear NF
      go_enter Tryd.func83, Tryd.ntmps83
      go_wp2_with (go_at_call 62; refine (KV.out _ HB2.out).mono ?_; rintro e w1 ⟨rfl, hb1⟩; have HB1 : Hid _ := hb1; clear hb1)
      go_ret
      exact ⟨by rw [E.out]; rfl, HB2.out.trans (HB1.out.mono HB2.out.size)⟩
    · have E : Hid (nf = 0) := NF.out
      clear NF
      go_enter Tryd.func83, Tryd.ntmps83
      go_wp2_with (go_at_call 62; refine (KV.out _ HB2.out).mono ?_; rintro e w1 ⟨rfl, hb1⟩; have HB1 : Hid _ := hb1; clear hb1)
      go_ret
      exact ⟨by rw [E.out]; rfl, HB2.out.trans (HB1.out.mono HB2.out.size)⟩
  have n2 : (kind == 2) = false := beq_eq_false_iff_ne.2 h2
  by_cases h3 : kind = 3
  · subst h3
    cases ba
    · have E : Hid (nf = 5) := NF.out
      clear NF h2
      go_enter Tryd.func83, Tryd.ntmps83
      go_wp2_with (go_at_call 62; refine (KA.out _ HB2.out).mono ?_; rintro e w1 ⟨rfl, hb1⟩; have HB1 : Hid _ := hb1; clear hb1)
      go_ret
      exact ⟨by rw [E.out]; rfl, HB2.out.trans (HB1.out.mono HB2.out.size)⟩
    · have E : Hid (nf = 0) := NF.out
      clear NF h2
      go_enter Tryd.func83, Tryd.ntmps83
      go_wp2_with (go_at_call 62; refine (KA.out _ HB2.out).mono ?_; rintro e w1 ⟨rfl, hb1⟩; have HB1 : Hid _ := hb1; clear hb1)
      go_ret
      exact ⟨by rw [E.out]; rfl, HB2.out.trans (HB1.out.mono HB2.out.size)⟩
  have n3 : (kind == 3) = false := beq_eq_false_iff_ne.2 h3
  by_cases h4 : kind = 4
  · subst h4
    have bx : ∀ W, Below ((w.alloc (.cells #[.func (.func 62) #[la] #[], .func (.func 62) #[ar] #[], .func (.func 63) #[] #[pu, pp]] 100)).alloc (.cells #[.int .i64 4, .int .i64 n, .string of, .string s, .slice ao alen acap] 29)).heap.size ((w.alloc (.cells #[.func (.func 62) #[la] #[], .func (.func 62) #[ar] #[], .func (.func 63) #[] #[pu, pp]] 100)).alloc (.cells #[.int .i64 4, .int .i64 n, .string of, .string s, .slice ao alen acap] 29)) W → ∀ o, (W.alloc o).cell? ⟨w.heap.size + 1, 4, none⟩ = some (.slice ao alen acap) := fun W hb => past (two_cells hb).2.2.2.2.2
    have BX : Hid _ := bx
    clear bx
    cases ao' with
    | none =>
      have E : Hid (nf = 5) := NF.out
      have KG : Hid (∀ W, Below w.heap.size w W → Calls Tryd.prog 63 #[.string of, .string s, pu, pp] W fun e w' => (∃ (g : FuncD), e = .returned (.tuple #[.agg #[.string g.name, .bool g.op, .slice g.pa g.pl g.pc, .slice g.ba g.bl g.bc], .bool false])) ∧ Below W.heap.size W w') := fun W h => (KF.out W h).mono fun e w' ⟨⟨g, b, he, hgb⟩, hb⟩ => by
        rcases hgb with ⟨_, h⟩ | ⟨h, _⟩
        · cases h
        · exact ⟨⟨g, by rw [he, h]⟩, hb⟩
      clear NF h2 h3 n2 n3 KF
      go_enter Tryd.func83, Tryd.ntmps83
      go_wp2_with (go_at_call 63; refine (KG.out _ HB2.out).mono ?_; rintro e w1 ⟨⟨g, rfl⟩, hb1⟩; have HB1 : Hid _ := hb1; clear hb1)
      go_ret
      exact ⟨by rw [E.out]; rfl, (HB2.out.trans (HB1.out.mono HB2.out.size)).alloc (Nat.le_trans HB2.out.size HB1.out.size) _⟩
    | some g =>
      have KG : Hid (∀ W, Below w.heap.size w W → Calls Tryd.prog 63 #[.string of, .string s, pu, pp] W fun e w' => e = .returned (.tuple #[.agg #[.string g.name, .bool g.op, .slice g.pa g.pl g.pc, .slice g.ba g.bl g.bc], .bool true]) ∧ Below W.heap.size W w') := fun W h => (KF.out W h).mono fun e w' ⟨⟨g', b, he, hgb⟩, hb⟩ => by
        rcases hgb with ⟨h, h'⟩ | ⟨_, h⟩
        · injection h' with h'
          exact ⟨by rw [he, h, h'], hb⟩
        · cases h
      obtain ⟨gn, go, gpa, gpl, gpc, gps, gba, gbl, gbc, gb⟩ := g
      dsimp only at *
      by_cases hl : gpl = alen
      · have E : Hid (nf = 0) := NF.out.trans (if_pos hl)
        subst hl
        clear NF h2 h3 n2 n3 KF
        go_enter Tryd.func83, Tryd.ntmps83
        go_wp2_with (go_at_call 63; refine (KG.out _ HB2.out).mono ?_; rintro e w1 ⟨rfl, hb1⟩; have q4 := BX.out _ hb1; have HB1 : Hid _ := hb1; clear hb1)
        go_ret
        exact ⟨by rw [E.out]; rfl, (HB2.out.trans (HB1.out.mono HB2.out.size)).alloc (Nat.le_trans HB2.out.size HB1.out.size) _⟩
      · have E : Hid (nf = 7) := NF.out.trans (if_neg hl)
        have hl2 : ((gpl : Int) == (alen : Int)) = false := beq_eq_false_iff_ne.2 (by omega)
        have hl3 : (gpl == alen) = false := beq_eq_false_iff_ne.2 hl
        clear NF h2 h3 n2 n3 KF hl
        go_enter Tryd.func83, Tryd.ntmps83
        go_wp2_with (go_at_call 63; refine (KG.out _ HB2.out).mono ?_; rintro e w1 ⟨rfl, hb1⟩; have q4 := BX.out _ hb1; have HB1 : Hid _ := hb1; clear hb1)
        go_ret
        exact ⟨by rw [E.out]; rfl, (HB2.out.trans (HB1.out.mono HB2.out.size)).alloc (Nat.le_trans HB2.out.size HB1.out.size) _⟩
  have n4 : (kind == 4) = false := beq_eq_false_iff_ne.2 h4
  have E : Hid (nf = 0) := by rw [NF.out, if_neg h2, if_neg h3, if_neg h4]; exact (rfl : (0 : Int) = 0)
  clear NF h2 h3 h4 KV KA KF
  go_enter Tryd.func83, Tryd.ntmps83
  go_wp2
  go_ret
  exact ⟨by rw [E.out]; rfl, HB2.out⟩
end Go.Proofs.YtgjemlhnlpglbaaDoor.NNamed
