/-
  LISTS OF UNITS, AND OF FUNCTIONS, THAT ARE HANDED IN, OPENED: where their names lie.
  Conditions: the argument reads as its type says.
-/
import Derived.Test.YtmbbkabecipkaaeNUnits
import Derived.Deep.Slices
import Derived.Lib.SmallJoins
import Derived.OpenShut
namespace Go.Proofs.Ytmbbkabecipkaae.NOpen
open Go.ChangeShapes Go.WideShapes Go.ChangeAt Go.RowKit Go.Joins NUnits

theorem own : ownKnob Try.prog.godebug = none := by kernel_rfl
theorem cellsStr : Try.prog.cellsOf 9 = 1 := by kernel_rfl
theorem cellsStrs : Try.prog.cellsOf 25 = 1 := by kernel_rfl
theorem cellsArrs : Try.prog.cellsOf 26 = 1 := by kernel_rfl
theorem cellsFuncs : Try.prog.cellsOf 27 = 1 := by kernel_rfl
theorem cellsFunc : Try.prog.cellsOf 44 = 4 := by kernel_rfl
theorem cellsUnit : Try.prog.cellsOf 29 = 4 := by kernel_rfl
theorem laidOut : laidOutB Try.prog = true := by kernel_rfl
theorem cut (l : List Value) (j : Nat) (v : Value) (hl : (l.drop j).take 1 = [v]) : l[j]? = some v := by
  have := congrArg (·[0]?) hl
  simpa [List.getElem?_drop] using this

section
variable {H : Type} {enc : TypeId × Value → H} {W : World} {spare : Nat → Bool} {held : Bool}
theorem take_one {cs : List Value} {j : Nat} (h : j < cs.length) : (cs.drop j).take 1 = [cs[j]] := by
  rw [List.drop_eq_getElem_cons h]; rfl

/-- elements of a slice: where each lies -/
theorem placed {ad : Addr} {len n : Nat} {V : Nat → Nat → Value} (hn : 0 < n) (look : ∀ i, i < len → ∀ j, j < n → W.cell? (ad.add (i * n + j)) = some (V i j)) :
    ∀ i, i < len → ∃ bl off, some ad = some ⟨bl, off, none⟩ ∧ ∀ j, j < n → W.cell? ⟨bl, off + i * n + j, none⟩ = some (V i j) := by
  intro i hi
  have t0 := look 0 (by omega) 0 hn
  obtain ⟨bl, off, spot⟩ := ad
  have hspot : spot = none := by simpa [Addr.add] using World.cell?_spot t0
  subst hspot
  refine ⟨bl, off, rfl, fun j hj => ?_⟩
  have u := look i hi j hj
  rw [Go.WideShapes.add_plain, ← Nat.add_assoc] at u
  exact u

/-- a slice of things with some cells each -/
theorem elems {t e : TypeId} {n : Nat} (hn : 0 < n) {fuel : Nat} {cs : List Value} {x : DataW H × List MemPlace} (ht : Try.prog.underlying t = some (.slice e)) (hc : Try.prog.cellsOf e = n) (h : DataW.trod enc Try.prog W 0 spare held fuel t cs = some x) :
    ∃ (ao : Option Addr) (len cap : Nat), cs = [.slice ao len cap] ∧ len ≤ maxLen ∧ ∀ i, i < len → ∃ (bl off : Nat) (ce : List Value) (m : Nat) (y : DataW H × List MemPlace), ao = some ⟨bl, off, none⟩ ∧ ce.length = n ∧
      (∀ j (hj : j < ce.length), W.cell? ⟨bl, off + i * n + j, none⟩ = some ce[j]) ∧ DataW.trod enc Try.prog W 0 spare held m e ce = some y := by
  rcases Go.Deep.open_slice ht h with ⟨rfl, _⟩ | ⟨ad, len, cap, m, k, D, Pl, rfl, _, hle, hcap, hm, _, hel⟩
  · exact ⟨none, 0, 0, rfl, Nat.zero_le _, fun i hi => absurd hi (by omega)⟩
  · have each : ∀ i, i < len → ∃ cs' : List Value, cs'.length = n ∧ (∀ j (hj : j < cs'.length), W.cell? (ad.add (i * n + j)) = some cs'[j]) ∧ DataW.trod enc Try.prog W 0 spare held k e cs' = some (D i, Pl i) := by
      intro i hi
      obtain ⟨cs', h1, h2⟩ := hel i (by rw [hm]; split <;> omega)
      rw [hc] at h1
      obtain ⟨_, hlen, hcell⟩ := World.cells?_some h1
      refine ⟨cs', hlen, fun j hj => ?_, h2⟩
      have := hcell j (by omega)
      rw [Go.Deep.add_add] at this
      rw [this]
      exact List.getElem?_eq_getElem hj
    refine ⟨some ad, len, cap, rfl, by omega, fun i hi => ?_⟩
    obtain ⟨c0, l0, t0, _⟩ := each 0 (by omega)
    obtain ⟨c, l, t, r⟩ := each i hi
    have s0 := t0 0 (by omega)
    obtain ⟨bl, off, spot⟩ := ad
    have hspot : spot = none := by simpa [Addr.add] using World.cell?_spot s0
    subst hspot
    refine ⟨bl, off, c, k, _, rfl, l, fun j hj => ?_, r⟩
    have u := t j hj
    rw [Go.WideShapes.add_plain, ← Nat.add_assoc] at u
    exact u


theorem units {fuel : Nat} {cs : List Value} {x : DataW H × List MemPlace} (h : DataW.trod enc Try.prog W 0 spare held fuel 22 cs = some x) :
    ∃ (ao : Option Addr) (len cap : Nat) (z : Nat → ByteArray), cs = [.slice ao len cap] ∧ len ≤ maxLen ∧ Heads W ao len z := by
  obtain ⟨ao, len, cap, rfl, hl, hel⟩ := elems (n := 4) (by omega) Try.underlying22 cellsUnit h
  have each : ∀ i, i < len → ∃ z : ByteArray, ∃ bl off, ao = some ⟨bl, off, none⟩ ∧ W.cell? ⟨bl, off + i * 4, none⟩ = some (.string z) := by
    intro i hi
    obtain ⟨bl, off, ce, m, y, e, hlen, hcell, hy⟩ := hel i hi
    obtain ⟨y0, y1, y2, y3, n, _, _, g0, _, _, _⟩ := trod_struct4 Try.underlying29 hy
    obtain ⟨z0, a0, _, _⟩ := DataW.trod_string Try.underlying9 g0
    simp only [cellsStr] at a0
    have k0 := (hcell 0 (by omega)).trans ((List.getElem?_eq_getElem (by omega)).symm.trans (cut _ _ _ a0))
    exact ⟨z0, bl, off, e, k0⟩
  have : Inhabited ByteArray := ⟨⟨#[]⟩⟩
  obtain ⟨q, hq⟩ := Go.Deep.choose_lt each
  exact ⟨ao, len, cap, q, rfl, hl, hq⟩

theorem funcs {fuel : Nat} {cs : List Value} {x : DataW H × List MemPlace} (h : DataW.trod enc Try.prog W 0 spare held fuel 27 cs = some x) :
    ∃ (ao : Option Addr) (len cap : Nat) (z : Nat → ByteArray), cs = [.slice ao len cap] ∧ len ≤ maxLen ∧ Heads W ao len z := by
  obtain ⟨ao, len, cap, rfl, hl, hel⟩ := elems (n := 4) (by omega) Try.underlying27 cellsFunc h
  have each : ∀ i, i < len → ∃ z : ByteArray, ∃ bl off, ao = some ⟨bl, off, none⟩ ∧ W.cell? ⟨bl, off + i * 4, none⟩ = some (.string z) := by
    intro i hi
    obtain ⟨bl, off, ce, m, y, e, hlen, hcell, hy⟩ := hel i hi
    obtain ⟨y0, y1, y2, y3, n, _, _, g0, _, _, _⟩ := trod_struct4 Try.underlying44 hy
    obtain ⟨z0, a0, _, _⟩ := DataW.trod_string Try.underlying9 g0
    simp only [cellsStr] at a0
    have k0 := (hcell 0 (by omega)).trans ((List.getElem?_eq_getElem (by omega)).symm.trans (cut _ _ _ a0))
    exact ⟨z0, bl, off, e, k0⟩
  have : Inhabited ByteArray := ⟨⟨#[]⟩⟩
  obtain ⟨q, hq⟩ := Go.Deep.choose_lt each
  exact ⟨ao, len, cap, q, rfl, hl, hq⟩

/-- a unit, by value: its functions' names -/
theorem unit {b0 : Nat} {v : Value} {d : DataW H} {p : List MemPlace} (hv : Value.okWide Try.prog W .any b0 29 v) (h : DataW.Trod enc Try.prog W 0 spare held 29 v d p) :
    ∃ (y0 y1 y2 : Value) (ao : Option Addr) (len cap : Nat) (z : Nat → ByteArray), v = .agg #[y0, y1, y2, .slice ao len cap] ∧ len ≤ maxLen ∧ Heads W ao len z := by
  obtain ⟨cs, rfl, hsz⟩ := okWide_struct Try.underlying29 hv
  rw [cellsUnit] at hsz
  obtain ⟨c0, c1, c2, c3, rfl⟩ := array4 hsz
  obtain ⟨fuel, hf⟩ := h
  obtain ⟨y0, y1, y2, y3, n, _, _, g0, g1, g2, g3⟩ := trod_struct4 Try.underlying29 hf
  obtain ⟨fa, fl, fc, fs, a3, s3, hF⟩ := funcs g3
  simp [Value.cells, cellsFuncs] at a3
  exact ⟨c0, c1, c2, fa, fl, fc, fs, by rw [a3], s3, hF⟩
end
end Go.Proofs.Ytmbbkabecipkaae.NOpen
