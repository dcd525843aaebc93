/-
  WHAT THE LISTED TABLE 'code.bounds' HOLDS, CELL BY CELL, wherever the row's condition is met.
  Conditions: the row's own ('laid').
-/
import Derived.Test.YtmmcpjmgindpkacDoorRows
import Derived.ProofKit
import Derived.OpenShut
import Derived.LaidMore
import Derived.Lay
import Derived.Lib.SmallJoins
namespace Go.Proofs.YtmmcpjmgindpkacDoor.Tab
open Go.ChangeShapes Go.WideShapes Go.ChangeAt Go.RowKit Go.Joins

/-- the least A, the most A, the most B, the most C, a row an Op -/
def rows : List (Int × Int × Int × Int) := [(0, 0, 0, 0), (0, 65535, 0, 0), (0, 0, 0, 0), (0, 0, 0, 0), (0, 7, 0, 0), (0, 7, 0, 0), (0, 0, 0, 0), (0, 0, 0, 0), (1, 10, 0, 0), (0, 1199, 0, 0), (0, 1199, 0, 0), (0, 1199, 4, 0), (0, 4, 7, 4), (0, 0, 0, 0), (0, 0, 0, 0), (0, 0, 0, 0)]

def row (k : Nat) : Int × Int × Int × Int := rows.getD k (0, 0, 0, 0)

/-- the table lies there -/
def Lies (w : World) : Prop := ∀ k, k < 16 → w.cell? ⟨0, k * 4, none⟩ = some (.int .i64 (row k).1) ∧ w.cell? ⟨0, k * 4 + 1, none⟩ = some (.int .i64 (row k).2.1) ∧ w.cell? ⟨0, k * 4 + 2, none⟩ = some (.int .i64 (row k).2.2.1) ∧ w.cell? ⟨0, k * 4 + 3, none⟩ = some (.int .i64 (row k).2.2.2)

theorem glob : Tryd.prog.globalNamed "barbican/code.bounds" = some 0 := by kernel_rfl
theorem type0 : (Tryd.prog.globals[0]?).map (·.type) = some 107 := by kernel_rfl
theorem cells38 : Tryd.prog.cellsOf 106 = 4 := by kernel_rfl
theorem cells39 : Tryd.prog.cellsOf 107 = 64 := by kernel_rfl
theorem cells3 : Tryd.prog.cellsOf 3 = 1 := by kernel_rfl

theorem lies {W : World} (h : laidMetH Tryd.prog [("barbican/code.bounds", Rows.laid_barbican_code_bounds)] W) : Lies W := by
  rw [MakeChecks.laidMetH_plain _ _ _ (by kernel_rfl)] at h
  obtain ⟨ps, ⟨g, t, cs, fuel, p, q, hg, ht, hv, hd, _, _⟩, _, _⟩ := h
  obtain rfl := Option.some.inj (glob.symm.trans hg)
  obtain rfl := Option.some.inj (type0.symm.trans ht)
  obtain ⟨xs, m, _, ex, hlen, hl, hel⟩ := DataW.trod_array Tryd.underlying107 hd
  have e3 := (DataW.agg.inj (Prod.mk.inj ex).1)
  have e4 : xs.map (·.1) = rows.map fun r => .agg [.lit (.int .i64 r.1), .lit (.int .i64 r.2.1), .lit (.int .i64 r.2.2.1), .lit (.int .i64 r.2.2.2)] := e3.symm
  intro k hk
  have hkx : k < xs.length := by omega
  have hel1 := hel k hk
  rw [List.getElem?_eq_getElem hkx, cells38] at hel1
  have hkr : k < rows.length := by simpa [rows] using hk
  have e5 : xs[k].1 = .agg [.lit (.int .i64 (row k).1), .lit (.int .i64 (row k).2.1), .lit (.int .i64 (row k).2.2.1), .lit (.int .i64 (row k).2.2.2)] := by
    have := congrArg (·[k]?) e4
    simp only [List.getElem?_map, List.getElem?_eq_getElem hkx, List.getElem?_eq_getElem hkr, Option.map_some, Option.some.injEq] at this
    rw [this]
    simp [row, List.getElem?_eq_getElem hkr]
  obtain ⟨y0, y1, y2, y3, n, hx, _, g0, g1, g2, g3⟩ := trod_struct4 Tryd.underlying106 hel1
  rw [hx] at e5
  have e6 := DataW.agg.inj e5
  simp only [List.cons.injEq, and_true] at e6
  obtain ⟨i0, i1, i2, i3⟩ := e6
  obtain ⟨z0, a0, b0, _⟩ := DataW.trod_int Tryd.underlying3 g0
  obtain ⟨z1, a1, b1, _⟩ := DataW.trod_int Tryd.underlying3 g1
  obtain ⟨z2, a2, b2, _⟩ := DataW.trod_int Tryd.underlying3 g2
  obtain ⟨z3, a3, b3, _⟩ := DataW.trod_int Tryd.underlying3 g3
  rw [b0] at i0; rw [b1] at i1; rw [b2] at i2; rw [b3] at i3
  simp at i0 i1 i2 i3
  subst i0 i1 i2 i3
  have at0 := World.var?_cell hg hv (k * 4)
  have at1 := World.var?_cell hg hv (k * 4 + 1)
  have at2 := World.var?_cell hg hv (k * 4 + 2)
  have at3 := World.var?_cell hg hv (k * 4 + 3)
  rw [at0, at1, at2, at3]
  have look : ∀ (l : List Value) (j off : Nat) (v : Value), (((l.drop (k * 4)).take 4).drop j).take 1 = [v] → j < 4 → l[k * 4 + j]? = some v := by
    intro l j off v hl hj
    have := congrArg (·[0]?) hl
    simp [List.getElem?_drop, hj] at this
    exact this
  refine ⟨?_, ?_, ?_, ?_⟩
  · simpa using look cs.toList 0 0 _ (by simpa [cells3] using a0) (by omega)
  · simpa using look cs.toList 1 0 _ (by simpa [cells3] using a1) (by omega)
  · simpa using look cs.toList 2 0 _ (by simpa [cells3] using a2) (by omega)
  · simpa using look cs.toList 3 0 _ (by simpa [cells3] using a3) (by omega)
end Go.Proofs.YtmmcpjmgindpkacDoor.Tab
