/-
  WHAT IS HANDED IN, OPENED: raw things; the units' names, wherever the row's condition is met.
  Conditions: the row's own ('laid').
-/
import Derived.Test.YtgjemlhnlpglbaaDoorR6
import Derived.Test.YtgjemlhnlpglbaaDoorRows
import Derived.ProofKit
import Derived.OpenShut
import Derived.LaidMore
import Derived.Lay
import Derived.Lib.SmallJoins
import Derived.Deep.Slices
import Derived.SizedLaws
namespace Go.Proofs.YtgjemlhnlpglbaaDoor.POpen
open Go.ChangeShapes Go.WideShapes Go.ChangeAt Go.RowKit Go.Joins PPlain PRaw PExprBase

theorem glob : Tryd.prog.globalNamed "barbican/barbicankeep.units" = some 0 := by kernel_rfl
theorem type0 : (Tryd.prog.globals[0]?).map (·.type) = some 61 := by kernel_rfl
theorem cellsStr : Tryd.prog.cellsOf 9 = 1 := by kernel_rfl
theorem cells3 : Tryd.prog.cellsOf 3 = 1 := by kernel_rfl
theorem cellsR : Tryd.prog.cellsOf 44 = 4 := by kernel_rfl
theorem bytesR : Tryd.prog.bytesOf 44 = 32 := by kernel_rfl

/-- the units' names, as they are listed -/
def nuL : List (List UInt8) := [[111, 110, 101], [116, 119, 111], [116, 114, 105]]
theorem nu_list : ∀ k, k < 3 → nuL[k]? = some (nu k).data.toList := by
  intro k hk
  obtain rfl | rfl | rfl : k = 0 ∨ k = 1 ∨ k = 2 := by omega
  all_goals rfl

theorem lies {W : World} (h : laidMetH Tryd.prog [("barbican/barbicankeep.units", Rows.laid_barbican_barbicankeep_units)] W) : Names W := by
  rw [MakeChecks.laidMetH_plain _ _ _ (by kernel_rfl)] at h
  obtain ⟨ps, ⟨g, t, cs, fuel, p, q, hg, ht, hv, hd, _, _⟩, _, _⟩ := h
  obtain rfl := Option.some.inj (glob.symm.trans hg)
  obtain rfl := Option.some.inj (type0.symm.trans ht)
  obtain ⟨xs, m, _, ex, hlen, hl, hel⟩ := DataW.trod_array Tryd.underlying61 hd
  have e3 := (DataW.agg.inj (Prod.mk.inj ex).1)
  have e4 : xs.map (·.1) = nuL.map fun s => .lit (.string s) := e3.symm
  intro k hk
  have hkx : k < xs.length := by omega
  have hel1 := hel k hk
  rw [List.getElem?_eq_getElem hkx, cellsStr] at hel1
  have hkr : k < nuL.length := by simpa [nuL] using hk
  have e5 : xs[k].1 = .lit (.string (nu k).data.toList) := by
    have := congrArg (·[k]?) e4
    simp only [List.getElem?_map, List.getElem?_eq_getElem hkx, Option.map_some] at this
    rw [nu_list k hk] at this
    simpa using this
  obtain ⟨s, a0, b0, _⟩ := DataW.trod_string Tryd.underlying9 hel1
  rw [b0] at e5
  have e6 : s = nu k := by
    have : s.data.toList = (nu k).data.toList := by simpa using e5
    have e : s.data = (nu k).data := Array.toList_inj.1 this
    exact ByteArray.ext e
  subst e6
  have at0 := World.var?_cell hg hv k
  rw [at0]
  have := congrArg (·[0]?) a0
  simp [List.getElem?_drop] at this
  simpa using this

theorem fits_of {z : Int} (h : (Lit.int .i64 z).wf = true) : int64 z := bounds_i64 h
/-- A LIST OF RAW THINGS, OPENED -/
theorem open_raws {H : Type} {enc : TypeId × Value → H} {W : World} {spare : Nat → Bool} {held : Bool} {fuel : Nat} {cs : List Value} {x : DataW H × List MemPlace}
    (h : DataW.trod enc Tryd.prog W 0 spare held fuel 22 cs = some x) :
    ∃ (ao : Option Addr) (len cap : Nat) (R : Nat → RawD), cs = [.slice ao len cap] ∧ len ≤ cap ∧ RRow W ao len R := by
  rcases Go.Deep.open_slice Tryd.underlying22 h with ⟨rfl, _⟩ | ⟨ad, len, cap, m, n, D, Pl, rfl, _, hle, hmax, hm, _, hel⟩
  · exact ⟨none, 0, 0, fun _ => ⟨0, 0, 0, 0⟩, rfl, Nat.le_refl _, fun k hk => absurd hk (by omega)⟩
  · have cut : ∀ (l : List Value) (j : Nat) (v : Value), (l.drop j).take 1 = [v] → l[j]? = some v := by
      intro l j v hl
      have := congrArg (·[0]?) hl
      simpa [List.getElem?_drop] using this
    have look : ∀ i, i < len → ∃ r : RawD, (W.cell? (ad.add (i * 4 + 0)) = some (.int .i64 r.k) ∧ W.cell? (ad.add (i * 4 + 1)) = some (.int .i64 r.a) ∧
        W.cell? (ad.add (i * 4 + 2)) = some (.int .i64 r.b) ∧ W.cell? (ad.add (i * 4 + 3)) = some (.int .i64 r.c)) ∧ r.fits := by
      intro i hi
      obtain ⟨cs', h1, h2⟩ := hel i (by rw [hm]; split <;> omega)
      rw [cellsR] at h1
      obtain ⟨_, hlen, hcell⟩ := World.cells?_some h1
      obtain ⟨y0, y1, y2, y3, n', hx, _, g0, g1, g2, g3⟩ := trod_struct4 Tryd.underlying44 h2
      obtain ⟨z0, a0, _, f0⟩ := DataW.trod_int Tryd.underlying3 g0
      obtain ⟨z1, a1, _, f1⟩ := DataW.trod_int Tryd.underlying3 g1
      obtain ⟨z2, a2, _, f2⟩ := DataW.trod_int Tryd.underlying3 g2
      obtain ⟨z3, a3, _, f3⟩ := DataW.trod_int Tryd.underlying3 g3
      simp only [cells3] at a0 a1 a2 a3
      have k0 := hcell 0 (by omega)
      have k1 := hcell 1 (by omega)
      have k2 := hcell 2 (by omega)
      have k3 := hcell 3 (by omega)
      rw [Go.Deep.add_add] at k0 k1 k2 k3
      exact ⟨⟨z0, z1, z2, z3⟩, ⟨k0.trans (cut _ _ _ a0), k1.trans (cut _ _ _ a1), k2.trans (cut _ _ _ a2), k3.trans (cut _ _ _ a3)⟩, fits_of f0, fits_of f1, fits_of f2, fits_of f3⟩
    have inh : Inhabited RawD := ⟨⟨0, 0, 0, 0⟩⟩
    obtain ⟨q, hq⟩ := Go.Deep.choose_lt look
    refine ⟨some ad, len, cap, q, rfl, hle, fun k hk => ?_⟩
    obtain ⟨⟨t0, _⟩, _⟩ := hq 0 (by omega)
    obtain ⟨bl, off, spot⟩ := ad
    have hspot : spot = none := by simpa [Addr.add] using World.cell?_spot t0
    subst hspot
    obtain ⟨⟨u0, u1, u2, u3⟩, f⟩ := hq k hk
    rw [Go.WideShapes.add_plain] at u0 u1 u2 u3
    exact ⟨⟨bl, off, rfl, u0, u1, u2, u3⟩, f⟩

/-- raw things that are handed in take fewer than 2^47 bytes: the form's own reach -/
theorem sized_raws {H : Type} {enc : TypeId × Value → H} {W : World} {spare : Nat → Bool} {held : Bool} {ts : List TypeId} {ds : List (DataW H)} (hsz : (DataW.weightsEach Tryd.prog ts ds).all (· ≤ reachBytes) = true) {j : Nat} {d : DataW H} {p : List MemPlace} {da : Option Addr} {dlen dcap : Nat}
    (ht : ts[j]? = some 22) (hd : ds[j]? = some d) (h : DataW.Trod enc Tryd.prog W 0 spare held 22 (.slice da dlen dcap) d p) : dlen ≤ 140737488355328 := by
  obtain ⟨fuel, hf⟩ := h
  rcases Go.Deep.open_slice Tryd.underlying22 hf with ⟨hcs, _⟩ | ⟨ad, len, cap, m, n, D, Pl, hcs, _, _, _, _, hx, _⟩
  · simp [Value.cells] at hcs
    omega
  · simp [Value.cells] at hcs
    obtain ⟨_, rfl, _⟩ := hcs
    simp only [Prod.mk.injEq] at hx
    rw [hx.1] at hd
    have := sized_slice hsz ht hd Tryd.underlying22
    rw [bytesR] at this
    have h2 := reachBytes_lt
    simp at this
    omega
end Go.Proofs.YtgjemlhnlpglbaaDoor.POpen
