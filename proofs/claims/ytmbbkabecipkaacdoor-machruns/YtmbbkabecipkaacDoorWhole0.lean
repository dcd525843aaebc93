/-
  WHAT THE LISTED TABLE 'code.bounds' HOLDS, CELL BY CELL, wherever the row's condition is met.
  Conditions: the row's own ('laid').
  WHAT code.Check AND THE DOCUMENT'S ANSWER InstrFault GIVE, for every instruction: each call returns, and lays new memory alone.
  Conditions: the table 'code.bounds' lies there (for code.Check).
-/
import Derived.Test.YtmbbkabecipkaacDoorRows
import Derived.ProofKit
import Derived.OpenShut
import Derived.LaidMore
import Derived.Lay
import Derived.Lib.SmallJoins
import Derived.WalkKit
namespace Go.Proofs.YtmbbkabecipkaacDoor.Tab
open Go.ChangeShapes Go.WideShapes Go.ChangeAt Go.RowKit Go.Joins

/-- the least A, the most A, the most B, the most C, a row an Op -/
def rows : List (Int × Int × Int × Int) := [(0, 0, 0, 0), (0, 65535, 0, 0), (0, 0, 0, 0), (0, 0, 0, 0), (0, 7, 0, 0), (0, 7, 0, 0), (0, 0, 0, 0), (0, 0, 0, 0), (1, 10, 0, 0), (0, 1199, 0, 0), (0, 1199, 0, 0), (0, 1199, 4, 0), (0, 4, 7, 4), (0, 0, 0, 0), (0, 0, 0, 0), (0, 0, 0, 0)]

def row (k : Nat) : Int × Int × Int × Int := rows.getD k (0, 0, 0, 0)

/-- the table lies there -/
def Lies (w : World) : Prop := ∀ k, k < 16 → w.cell? ⟨0, k * 4, none⟩ = some (.int .i64 (row k).1) ∧ w.cell? ⟨0, k * 4 + 1, none⟩ = some (.int .i64 (row k).2.1) ∧ w.cell? ⟨0, k * 4 + 2, none⟩ = some (.int .i64 (row k).2.2.1) ∧ w.cell? ⟨0, k * 4 + 3, none⟩ = some (.int .i64 (row k).2.2.2)

theorem glob : Tryd.prog.globalNamed "barbican/code.bounds" = some 0 := by kernel_rfl
theorem type0 : (Tryd.prog.globals[0]?).map (·.type) = some 107 := by kernel_rfl
theorem cells38 : Tryd.prog.cellsOf 106 = 4 := by kernel_rfl
theorem cells39 : Tryd.prog.cellsOf 107 = 64 := by kernel_rfl
theorem cells3 : Tryd.prog.cellsOf 3 = 1 := by kernel_rfl

theorem lies {W : World} (h : laidMetH Tryd.prog [("barbican/code.bounds", Rows.laid_barbican_code_bounds)] W) : Lies W := by
  rw [MakeChecks.laidMetH_plain _ _ _ (by kernel_rfl)] at h
  obtain ⟨ps, ⟨g, t, cs, fuel, p, q, hg, ht, hv, hd, _, _⟩, _, _⟩ := h
  obtain rfl := Option.some.inj (glob.symm.trans hg)
  obtain rfl := Option.some.inj (type0.symm.trans ht)
  obtain ⟨xs, m, _, ex, hlen, hl, hel⟩ := DataW.trod_array Tryd.underlying107 hd
  have e3 := (DataW.agg.inj (Prod.mk.inj ex).1)
  have e4 : xs.map (·.1) = rows.map fun r => .agg [.lit (.int .i64 r.1), .lit (.int .i64 r.2.1), .lit (.int .i64 r.2.2.1), .lit (.int .i64 r.2.2.2)] := e3.symm
  intro k hk
  have hkx : k < xs.length := by omega
  have hel1 := hel k hk
  rw [List.getElem?_eq_getElem hkx, cells38] at hel1
  have hkr : k < rows.length := by simpa [rows] using hk
  have e5 : xs[k].1 = .agg [.lit (.int .i64 (row k).1), .lit (.int .i64 (row k).2.1), .lit (.int .i64 (row k).2.2.1), .lit (.int .i64 (row k).2.2.2)] := by
    have := congrArg (·[k]?) e4
    simp only [List.getElem?_map, List.getElem?_eq_getElem hkx, List.getElem?_eq_getElem hkr, Option.map_some, Option.some.injEq] at this
    rw [this]
    simp [row, List.getElem?_eq_getElem hkr]
  obtain ⟨y0, y1, y2, y3, n, hx, _, g0, g1, g2, g3⟩ := trod_struct4 Tryd.underlying106 hel1
  rw [hx] at e5
  have e6 := DataW.agg.inj e5
  simp only [List.cons.injEq, and_true] at e6
  obtain ⟨i0, i1, i2, i3⟩ := e6
  obtain ⟨z0, a0, b0, _⟩ := DataW.trod_int Tryd.underlying3 g0
  obtain ⟨z1, a1, b1, _⟩ := DataW.trod_int Tryd.underlying3 g1
  obtain ⟨z2, a2, b2, _⟩ := DataW.trod_int Tryd.underlying3 g2
  obtain ⟨z3, a3, b3, _⟩ := DataW.trod_int Tryd.underlying3 g3
  rw [b0] at i0; rw [b1] at i1; rw [b2] at i2; rw [b3] at i3
  simp at i0 i1 i2 i3
  subst i0 i1 i2 i3
  have at0 := World.var?_cell hg hv (k * 4)
  have at1 := World.var?_cell hg hv (k * 4 + 1)
  have at2 := World.var?_cell hg hv (k * 4 + 2)
  have at3 := World.var?_cell hg hv (k * 4 + 3)
  rw [at0, at1, at2, at3]
  have look : ∀ (l : List Value) (j off : Nat) (v : Value), (((l.drop (k * 4)).take 4).drop j).take 1 = [v] → j < 4 → l[k * 4 + j]? = some v := by
    intro l j off v hl hj
    have := congrArg (·[0]?) hl
    simp [List.getElem?_drop, hj] at this
    exact this
  refine ⟨?_, ?_, ?_, ?_⟩
  · simpa using look cs.toList 0 0 _ (by simpa [cells3] using a0) (by omega)
  · simpa using look cs.toList 1 0 _ (by simpa [cells3] using a1) (by omega)
  · simpa using look cs.toList 2 0 _ (by simpa [cells3] using a2) (by omega)
  · simpa using look cs.toList 3 0 _ (by simpa [cells3] using a3) (by omega)
end Go.Proofs.YtmbbkabecipkaacDoor.Tab

namespace Go.Proofs.YtmbbkabecipkaacDoor.Check
open Go.RowKit Tab

/-- P2.1: what an instruction is refused with -/
def fault (op a b c : Int) : Int :=
  if 1 ≤ op ∧ op ≤ 15 then
    if ((row op.toNat).1 ≤ a ∧ a ≤ (row op.toNat).2.1) ∧ (0 ≤ b ∧ b ≤ (row op.toNat).2.2.1) ∧ (0 ≤ c ∧ c ≤ (row op.toNat).2.2.2) then 0 else 2
  else 3

theorem within (n l m : Int) (w : World) :
    Calls Tryd.prog 58 #[.int .i64 n, .int .i64 l, .int .i64 m] w fun e w' => e = .returned (.bool (decide (l ≤ n ∧ n ≤ m))) ∧ w' = w := by
  by_cases c0 : l ≤ n <;> by_cases c1 : n ≤ m
  all_goals
    go_enter Tryd.func58, Tryd.ntmps58
    go_wp2
    go_ret
    exact ⟨by simp [c0, c1], rfl⟩

theorem isIn (n l m : Int) (w : World) :
    Calls Tryd.prog 27 #[.int .i64 n, .int .i64 l, .int .i64 m] w fun e w' => e = .returned (.bool (decide (l ≤ n ∧ n ≤ m))) ∧ w' = w := by
  by_cases c0 : l ≤ n <;> by_cases c1 : n ≤ m
  all_goals
    go_enter Tryd.func27, Tryd.ntmps27
    go_wp2
    go_ret
    exact ⟨by simp [c0, c1], rfl⟩

theorem below2 (w : World) (o o' : Obj) : Below w.heap.size w ((w.alloc o).alloc o') := ((Below.refl _ _).alloc (Nat.le_refl _) o).alloc (by simp) o'
theorem below1 (w : World) (o : Obj) : Below w.heap.size w (w.alloc o) := (Below.refl _ _).alloc (Nat.le_refl _) o

theorem check_ok (k : Nat) (hk : 1 ≤ k) (hk' : k ≤ 15) (a b c la ma mb mc : Int) (w : World) (t0 : w.cell? ⟨0, k * 4, none⟩ = some (.int .i64 la)) (t1 : w.cell? ⟨0, k * 4 + 1, none⟩ = some (.int .i64 ma))
    (t2 : w.cell? ⟨0, k * 4 + 2, none⟩ = some (.int .i64 mb)) (t3 : w.cell? ⟨0, k * 4 + 3, none⟩ = some (.int .i64 mc))
    (c0 : la ≤ a ∧ a ≤ ma) (c1 : 0 ≤ b ∧ b ≤ mb) (c2 : 0 ≤ c ∧ c ≤ mc) :
    Calls Tryd.prog 57 #[.agg #[.int .i64 k, .int .i64 a, .int .i64 b, .int .i64 c]] w fun e w' => e = .returned (.int .i64 0) ∧ Below w.heap.size w w' := by
  have hk2 : (1 : Int) ≤ k := by omega
  have hk3 : (k : Int) ≤ 15 := by omega
  have hne : 0 ≠ w.heap.size := fun h => by have := World.block_lt_of_cell? w _ t0; simp only at this; omega
  have u0 : ∀ o, (w.alloc o).cell? ⟨0, k * 4, none⟩ = some (.int .i64 la) := fun o => (World.cell?_alloc_old w o _ hne).trans t0
  have u1 : ∀ o, (w.alloc o).cell? ⟨0, k * 4 + 1, none⟩ = some (.int .i64 ma) := fun o => (World.cell?_alloc_old w o _ hne).trans t1
  have u2 : ∀ o, (w.alloc o).cell? ⟨0, k * 4 + 2, none⟩ = some (.int .i64 mb) := fun o => (World.cell?_alloc_old w o _ hne).trans t2
  have u3 : ∀ o, (w.alloc o).cell? ⟨0, k * 4 + 3, none⟩ = some (.int .i64 mc) := fun o => (World.cell?_alloc_old w o _ hne).trans t3
  clear t0 t1 t2 t3
  go_enter Tryd.func57, Tryd.ntmps57
  go_wp2_with (go_at_call 58; refine (within _ _ _ _).mono ?_; rintro e w' ⟨rfl, rfl⟩)
  go_ret
  exact ⟨rfl, below2 _ _ _⟩

theorem check_bad (k : Nat) (hk : 1 ≤ k) (hk' : k ≤ 15) (a b c la ma mb mc : Int) (w : World) (t0 : w.cell? ⟨0, k * 4, none⟩ = some (.int .i64 la)) (t1 : w.cell? ⟨0, k * 4 + 1, none⟩ = some (.int .i64 ma))
    (t2 : w.cell? ⟨0, k * 4 + 2, none⟩ = some (.int .i64 mb)) (t3 : w.cell? ⟨0, k * 4 + 3, none⟩ = some (.int .i64 mc))
    (c0 : ¬ ((la ≤ a ∧ a ≤ ma) ∧ (0 ≤ b ∧ b ≤ mb) ∧ (0 ≤ c ∧ c ≤ mc))) :
    Calls Tryd.prog 57 #[.agg #[.int .i64 k, .int .i64 a, .int .i64 b, .int .i64 c]] w fun e w' => e = .returned (.int .i64 2) ∧ Below w.heap.size w w' := by
  have hk2 : (1 : Int) ≤ k := by omega
  have hk3 : (k : Int) ≤ 15 := by omega
  have hne : 0 ≠ w.heap.size := fun h => by have := World.block_lt_of_cell? w _ t0; simp only at this; omega
  have u0 : ∀ o, (w.alloc o).cell? ⟨0, k * 4, none⟩ = some (.int .i64 la) := fun o => (World.cell?_alloc_old w o _ hne).trans t0
  have u1 : ∀ o, (w.alloc o).cell? ⟨0, k * 4 + 1, none⟩ = some (.int .i64 ma) := fun o => (World.cell?_alloc_old w o _ hne).trans t1
  have u2 : ∀ o, (w.alloc o).cell? ⟨0, k * 4 + 2, none⟩ = some (.int .i64 mb) := fun o => (World.cell?_alloc_old w o _ hne).trans t2
  have u3 : ∀ o, (w.alloc o).cell? ⟨0, k * 4 + 3, none⟩ = some (.int .i64 mc) := fun o => (World.cell?_alloc_old w o _ hne).trans t3
  clear t0 t1 t2 t3
  by_cases d0 : la ≤ a ∧ a ≤ ma
  · by_cases d1 : 0 ≤ b ∧ b ≤ mb
    · have d2 : ¬ (0 ≤ c ∧ c ≤ mc) := fun d2 => c0 ⟨d0, d1, d2⟩
      have d3 : decide (0 ≤ c ∧ c ≤ mc) = false := decide_eq_false d2
      clear c0 d2
      go_enter Tryd.func57, Tryd.ntmps57
      go_wp2_with (go_at_call 58; refine (within _ _ _ _).mono ?_; rintro e w' ⟨rfl, rfl⟩)
      all_goals
        go_ret
        exact ⟨rfl, below2 _ _ _⟩
    · have d3 : decide (0 ≤ b ∧ b ≤ mb) = false := decide_eq_false d1
      clear c0 d1
      go_enter Tryd.func57, Tryd.ntmps57
      go_wp2_with (go_at_call 58; refine (within _ _ _ _).mono ?_; rintro e w' ⟨rfl, rfl⟩)
      all_goals
        go_ret
        exact ⟨rfl, below2 _ _ _⟩
  · have d3 : decide (la ≤ a ∧ a ≤ ma) = false := decide_eq_false d0
    clear c0 d0
    go_enter Tryd.func57, Tryd.ntmps57
    go_wp2_with (go_at_call 58; refine (within _ _ _ _).mono ?_; rintro e w' ⟨rfl, rfl⟩)
    all_goals
      go_ret
      exact ⟨rfl, below2 _ _ _⟩

theorem check_kind (op a b c : Int) (h : ¬ (1 ≤ op ∧ op ≤ 15)) (w : World) :
    Calls Tryd.prog 57 #[.agg #[.int .i64 op, .int .i64 a, .int .i64 b, .int .i64 c]] w fun e w' => e = .returned (.int .i64 3) ∧ Below w.heap.size w w' := by
  rcases (show op < 1 ∨ (1 ≤ op ∧ 15 < op) by omega) with h1 | ⟨h1, h2⟩
  all_goals
    clear h
    go_enter Tryd.func57, Tryd.ntmps57
    go_wp2
    go_ret
    exact ⟨rfl, below1 _ _⟩

theorem check (op a b c : Int) (w : World) (hl : Lies w) :
    Calls Tryd.prog 57 #[.agg #[.int .i64 op, .int .i64 a, .int .i64 b, .int .i64 c]] w fun e w' => e = .returned (.int .i64 (fault op a b c)) ∧ Below w.heap.size w w' := by
  by_cases h : 1 ≤ op ∧ op ≤ 15
  · obtain ⟨k, rfl⟩ : ∃ k : Nat, op = k := ⟨op.toNat, by omega⟩
    obtain ⟨t0, t1, t2, t3⟩ := hl k (by omega)
    by_cases d : ((row k).1 ≤ a ∧ a ≤ (row k).2.1) ∧ (0 ≤ b ∧ b ≤ (row k).2.2.1) ∧ (0 ≤ c ∧ c ≤ (row k).2.2.2)
    · have : fault k a b c = 0 := by rw [fault, if_pos h, Int.toNat_natCast, if_pos d]
      rw [this]
      exact check_ok k (by omega) (by omega) a b c _ _ _ _ w t0 t1 t2 t3 d.1 d.2.1 d.2.2
    · have : fault k a b c = 2 := by rw [fault, if_pos h, Int.toNat_natCast, if_neg d]
      rw [this]
      exact check_bad k (by omega) (by omega) a b c _ _ _ _ w t0 t1 t2 t3 d
  · have : fault op a b c = 3 := by rw [fault, if_neg h]
    rw [this]
    exact check_kind op a b c h w
end Go.Proofs.YtmbbkabecipkaacDoor.Check
