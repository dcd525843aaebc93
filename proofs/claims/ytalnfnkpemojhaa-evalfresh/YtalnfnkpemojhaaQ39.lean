/-
  A UNIT THAT IS HANDED IN, OPENED: each name, function, statement and expression lies where it is looked for.
  Conditions: the argument reads as its type says.
  A LIST OF UNITS THAT IS HANDED IN, OPENED: each name, function, statement and expression lies where it is looked for; lists of params have as much room as they have names.
  Conditions: the argument reads as its type says.
-/
import Derived.Test.YtalnfnkpemojhaaQ2
import Derived.Deep.Slices
import Derived.Lib.SmallJoins
import Derived.OpenShut
namespace Go.Proofs.Ytalnfnkpemojhaa.Opened
open Go.ChangeShapes Go.WideShapes Go.ChangeAt Go.RowKit Go.Joins Trees

theorem own : ownKnob Try.prog.godebug = none := by kernel_rfl
theorem cells3 : Try.prog.cellsOf 3 = 1 := by kernel_rfl
theorem cells4 : Try.prog.cellsOf 4 = 1 := by kernel_rfl
theorem cellsStr : Try.prog.cellsOf 9 = 1 := by kernel_rfl
theorem cellsExprs : Try.prog.cellsOf 79 = 1 := by kernel_rfl
theorem cellsExpr : Try.prog.cellsOf 85 = 5 := by kernel_rfl
theorem cellsStmts : Try.prog.cellsOf 50 = 1 := by kernel_rfl
theorem cellsStmt : Try.prog.cellsOf 81 = 5 := by kernel_rfl
theorem cellsStrs : Try.prog.cellsOf 34 = 1 := by kernel_rfl
theorem cellsArrs : Try.prog.cellsOf 35 = 1 := by kernel_rfl
theorem cellsArr : Try.prog.cellsOf 49 = 2 := by kernel_rfl
theorem cellsFuncs : Try.prog.cellsOf 36 = 1 := by kernel_rfl
theorem cellsFunc : Try.prog.cellsOf 52 = 4 := by kernel_rfl
theorem cellsUnit : Try.prog.cellsOf 38 = 4 := by kernel_rfl
theorem laidOut : laidOutB Try.prog = true := by kernel_rfl

theorem cut (l : List Value) (j : Nat) (v : Value) (hl : (l.drop j).take 1 = [v]) : l[j]? = some v := by
  have := congrArg (·[0]?) hl
  simpa [List.getElem?_drop] using this

section
variable {H : Type} {enc : TypeId × Value → H} {W : World} {spare : Nat → Bool} {held : Bool}

theorem trod_struct5 {P : Program} {w : World} {base : Nat} {t : TypeId} {f0 f1 f2 f3 f4 : Field} {fuel : Nat} {cs : List Value} {x : DataW H × List MemPlace} (ht : P.underlying t = some (.struct #[f0, f1, f2, f3, f4])) (h : DataW.trod enc P w base spare held fuel t cs = some x) :
    ∃ y0 y1 y2 y3 y4 n, cs.length = P.cellsOf t ∧ DataW.trod enc P w base spare held n f0.type ((cs.drop f0.offset).take (P.cellsOf f0.type)) = some y0 ∧
      DataW.trod enc P w base spare held n f1.type ((cs.drop f1.offset).take (P.cellsOf f1.type)) = some y1 ∧ DataW.trod enc P w base spare held n f2.type ((cs.drop f2.offset).take (P.cellsOf f2.type)) = some y2 ∧
      DataW.trod enc P w base spare held n f3.type ((cs.drop f3.offset).take (P.cellsOf f3.type)) = some y3 ∧ DataW.trod enc P w base spare held n f4.type ((cs.drop f4.offset).take (P.cellsOf f4.type)) = some y4 := by
  obtain ⟨xs, n, _, rfl, hl, hlen, hf⟩ := DataW.trod_struct ht h
  match xs, hlen with
  | [y0, y1, y2, y3, y4], _ => exact ⟨y0, y1, y2, y3, y4, n, hl, by simpa using hf 0 f0 rfl, by simpa using hf 1 f1 rfl, by simpa using hf 2 f2 rfl, by simpa using hf 3 f3 rfl, by simpa using hf 4 f4 rfl⟩

theorem take_one {cs : List Value} {j : Nat} (h : j < cs.length) : (cs.drop j).take 1 = [cs[j]] := by
  rw [List.drop_eq_getElem_cons h]; rfl

/-- elements of a slice: where each lies -/
theorem placed {ad : Addr} {len n : Nat} {V : Nat → Nat → Value} (hn : 0 < n) (look : ∀ i, i < len → ∀ j, j < n → W.cell? (ad.add (i * n + j)) = some (V i j)) :
    ∀ i, i < len → ∃ bl off, some ad = some ⟨bl, off, none⟩ ∧ ∀ j, j < n → W.cell? ⟨bl, off + i * n + j, none⟩ = some (V i j) := by
  intro i hi
  have t0 := look 0 (by omega) 0 hn
  obtain ⟨bl, off, spot⟩ := ad
  have hspot : spot = none := by simpa [Addr.add] using World.cell?_spot t0
  subst hspot
  refine ⟨bl, off, rfl, fun j hj => ?_⟩
  have u := look i hi j hj
  rw [Go.WideShapes.add_plain, ← Nat.add_assoc] at u
  exact u

/-- a slice of things with some cells each -/
theorem elems {t e : TypeId} {n : Nat} (hn : 0 < n) {fuel : Nat} {cs : List Value} {x : DataW H × List MemPlace} (ht : Try.prog.underlying t = some (.slice e)) (hc : Try.prog.cellsOf e = n) (h : DataW.trod enc Try.prog W 0 spare held fuel t cs = some x) :
    ∃ (ao : Option Addr) (len cap : Nat), cs = [.slice ao len cap] ∧ len ≤ maxLen ∧ ∀ i, i < len → ∃ (bl off : Nat) (ce : List Value) (m : Nat) (y : DataW H × List MemPlace), ao = some ⟨bl, off, none⟩ ∧ ce.length = n ∧
      (∀ j (hj : j < ce.length), W.cell? ⟨bl, off + i * n + j, none⟩ = some ce[j]) ∧ DataW.trod enc Try.prog W 0 spare held m e ce = some y := by
  rcases Go.Deep.open_slice ht h with ⟨rfl, _⟩ | ⟨ad, len, cap, m, k, D, Pl, rfl, _, hle, hcap, hm, _, hel⟩
  · exact ⟨none, 0, 0, rfl, Nat.zero_le _, fun i hi => absurd hi (by omega)⟩
  · have each : ∀ i, i < len → ∃ cs' : List Value, cs'.length = n ∧ (∀ j (hj : j < cs'.length), W.cell? (ad.add (i * n + j)) = some cs'[j]) ∧ DataW.trod enc Try.prog W 0 spare held k e cs' = some (D i, Pl i) := by
      intro i hi
      obtain ⟨cs', h1, h2⟩ := hel i (by rw [hm]; split <;> omega)
      rw [hc] at h1
      obtain ⟨_, hlen, hcell⟩ := World.cells?_some h1
      refine ⟨cs', hlen, fun j hj => ?_, h2⟩
      have := hcell j (by omega)
      rw [Go.Deep.add_add] at this
      rw [this]
      exact List.getElem?_eq_getElem hj
    refine ⟨some ad, len, cap, rfl, by omega, fun i hi => ?_⟩
    obtain ⟨c0, l0, t0, _⟩ := each 0 (by omega)
    obtain ⟨c, l, t, r⟩ := each i hi
    have s0 := t0 0 (by omega)
    obtain ⟨bl, off, spot⟩ := ad
    have hspot : spot = none := by simpa [Addr.add] using World.cell?_spot s0
    subst hspot
    refine ⟨bl, off, c, k, _, rfl, l, fun j hj => ?_, r⟩
    have u := t j hj
    rw [Go.WideShapes.add_plain, ← Nat.add_assoc] at u
    exact u

def noExpr : ENode := ⟨0, 0, ⟨#[]⟩, ⟨#[]⟩, none, 0, 0⟩

theorem exprs : ∀ (d : Nat) {fuel : Nat} {cs : List Value} {x : DataW H × List MemPlace}, DataW.trod enc Try.prog W 0 spare held fuel 79 cs = some x →
    ∃ (ao : Option Addr) (len cap : Nat) (E : Nat → ETree), cs = [.slice ao len cap] ∧ len ≤ maxLen ∧ ERow W ao len E d := by
  intro d
  induction d with
  | zero =>
    intro fuel cs x h
    obtain ⟨ao, len, cap, rfl, hl, hel⟩ := elems (n := 5) (by omega) Try.underlying79 cellsExpr h
    have each : ∀ i, i < len → ∃ T : ETree, (∃ bl off, ao = some ⟨bl, off, none⟩ ∧ W.cell? ⟨bl, off + i * 5, none⟩ = some (.int .i64 (T []).kind) ∧ W.cell? ⟨bl, off + i * 5 + 1, none⟩ = some (.int .i64 (T []).n) ∧
      W.cell? ⟨bl, off + i * 5 + 2, none⟩ = some (.string (T []).of) ∧ W.cell? ⟨bl, off + i * 5 + 3, none⟩ = some (.string (T []).s) ∧ W.cell? ⟨bl, off + i * 5 + 4, none⟩ = some (.slice (T []).ao (T []).len (T []).cap)) ∧
      ((T []).of.size ≤ maxLen ∧ (T []).s.size ≤ maxLen ∧ (T []).len ≤ maxLen) ∧ ELies W 0 T := by
      intro i hi
      obtain ⟨bl, off, ce, m, y, e, hlen, hcell, hy⟩ := hel i hi
      obtain ⟨y0, y1, y2, y3, y4, n, _, g0, g1, g2, g3, g4⟩ := trod_struct5 Try.underlying85 hy
      obtain ⟨z0, a0, _, _⟩ := DataW.trod_int Try.underlying3 g0
      obtain ⟨z1, a1, _, _⟩ := DataW.trod_int Try.underlying3 g1
      obtain ⟨z2, a2, _, s2⟩ := DataW.trod_string Try.underlying9 g2
      obtain ⟨z3, a3, _, s3⟩ := DataW.trod_string Try.underlying9 g3
      obtain ⟨ao', len', cap', a4, hl', _⟩ := elems (n := 5) (by omega) Try.underlying79 cellsExpr g4
      simp only [cells3, cellsStr, cellsExprs] at a0 a1 a2 a3 a4
      have k0 := (hcell 0 (by omega)).trans ((List.getElem?_eq_getElem (by omega)).symm.trans (cut _ _ _ a0))
      have k1 := (hcell 1 (by omega)).trans ((List.getElem?_eq_getElem (by omega)).symm.trans (cut _ _ _ a1))
      have k2 := (hcell 2 (by omega)).trans ((List.getElem?_eq_getElem (by omega)).symm.trans (cut _ _ _ a2))
      have k3 := (hcell 3 (by omega)).trans ((List.getElem?_eq_getElem (by omega)).symm.trans (cut _ _ _ a3))
      have k4 := (hcell 4 (by omega)).trans ((List.getElem?_eq_getElem (by omega)).symm.trans (cut _ _ _ a4))
      exact ⟨fun _ => ⟨z0, z1, z2, z3, ao', len', cap'⟩, ⟨bl, off, e, k0, k1, k2, k3, k4⟩, ⟨s2, s3, hl'⟩, trivial⟩
    have : Inhabited ETree := ⟨fun _ => noExpr⟩
    obtain ⟨q, hq⟩ := Go.Deep.choose_lt each
    exact ⟨ao, len, cap, q, rfl, hl, hq⟩
  | succ d ih =>
    intro fuel cs x h
    obtain ⟨ao, len, cap, rfl, hl, hel⟩ := elems (n := 5) (by omega) Try.underlying79 cellsExpr h
    have each : ∀ i, i < len → ∃ T : ETree, (∃ bl off, ao = some ⟨bl, off, none⟩ ∧ W.cell? ⟨bl, off + i * 5, none⟩ = some (.int .i64 (T []).kind) ∧ W.cell? ⟨bl, off + i * 5 + 1, none⟩ = some (.int .i64 (T []).n) ∧
      W.cell? ⟨bl, off + i * 5 + 2, none⟩ = some (.string (T []).of) ∧ W.cell? ⟨bl, off + i * 5 + 3, none⟩ = some (.string (T []).s) ∧ W.cell? ⟨bl, off + i * 5 + 4, none⟩ = some (.slice (T []).ao (T []).len (T []).cap)) ∧
      ((T []).of.size ≤ maxLen ∧ (T []).s.size ≤ maxLen ∧ (T []).len ≤ maxLen) ∧ ELies W (d + 1) T := by
      intro i hi
      obtain ⟨bl, off, ce, m, y, e, hlen, hcell, hy⟩ := hel i hi
      obtain ⟨y0, y1, y2, y3, y4, n, _, g0, g1, g2, g3, g4⟩ := trod_struct5 Try.underlying85 hy
      obtain ⟨z0, a0, _, _⟩ := DataW.trod_int Try.underlying3 g0
      obtain ⟨z1, a1, _, _⟩ := DataW.trod_int Try.underlying3 g1
      obtain ⟨z2, a2, _, s2⟩ := DataW.trod_string Try.underlying9 g2
      obtain ⟨z3, a3, _, s3⟩ := DataW.trod_string Try.underlying9 g3
      obtain ⟨ao', len', cap', E, a4, hl', hE⟩ := ih g4
      simp only [cells3, cellsStr, cellsExprs] at a0 a1 a2 a3 a4
      have k0 := (hcell 0 (by omega)).trans ((List.getElem?_eq_getElem (by omega)).symm.trans (cut _ _ _ a0))
      have k1 := (hcell 1 (by omega)).trans ((List.getElem?_eq_getElem (by omega)).symm.trans (cut _ _ _ a1))
      have k2 := (hcell 2 (by omega)).trans ((List.getElem?_eq_getElem (by omega)).symm.trans (cut _ _ _ a2))
      have k3 := (hcell 3 (by omega)).trans ((List.getElem?_eq_getElem (by omega)).symm.trans (cut _ _ _ a3))
      have k4 := (hcell 4 (by omega)).trans ((List.getElem?_eq_getElem (by omega)).symm.trans (cut _ _ _ a4))
      exact ⟨fun p => match p with | [] => ⟨z0, z1, z2, z3, ao', len', cap'⟩ | j :: p => E j p, ⟨bl, off, e, k0, k1, k2, k3, k4⟩, ⟨s2, s3, hl'⟩, hE⟩
    have : Inhabited ETree := ⟨fun _ => noExpr⟩
    obtain ⟨q, hq⟩ := Go.Deep.choose_lt each
    exact ⟨ao, len, cap, q, rfl, hl, hq⟩

def noStmt : SNode := ⟨0, ⟨#[]⟩, none, 0, 0, fun _ _ => noExpr, none, 0, 0, none, 0, 0⟩

theorem stmts : ∀ (d : Nat) {fuel : Nat} {cs : List Value} {x : DataW H × List MemPlace}, DataW.trod enc Try.prog W 0 spare held fuel 50 cs = some x →
    ∃ (ao : Option Addr) (len cap : Nat) (L : Nat → STree), cs = [.slice ao len cap] ∧ len ≤ maxLen ∧ SRow W d ao len L := by
  intro d
  induction d with
  | zero =>
    intro fuel cs x h
    obtain ⟨ao, len, cap, rfl, hl, _⟩ := elems (n := 5) (by omega) Try.underlying50 cellsStmt h
    exact ⟨ao, len, cap, fun _ _ => noStmt, rfl, hl, trivial⟩
  | succ d ih =>
    intro fuel cs x h
    obtain ⟨ao, len, cap, rfl, hl, hel⟩ := elems (n := 5) (by omega) Try.underlying50 cellsStmt h
    have each : ∀ i, i < len → ∃ T : STree, (∃ bl off, ao = some ⟨bl, off, none⟩ ∧ W.cell? ⟨bl, off + i * 5, none⟩ = some (.int .i64 (T []).kind) ∧ W.cell? ⟨bl, off + i * 5 + 1, none⟩ = some (.string (T []).s) ∧
      W.cell? ⟨bl, off + i * 5 + 2, none⟩ = some (.slice (T []).ea (T []).el (T []).ec) ∧ W.cell? ⟨bl, off + i * 5 + 3, none⟩ = some (.slice (T []).ba (T []).bl (T []).bc) ∧ W.cell? ⟨bl, off + i * 5 + 4, none⟩ = some (.slice (T []).la (T []).ll (T []).lc)) ∧
      ((T []).s.size ≤ maxLen ∧ (T []).el ≤ maxLen ∧ (T []).bl ≤ maxLen ∧ (T []).ll ≤ maxLen) ∧ ERow W (T []).ea (T []).el (T []).ex 12 ∧ SRow W d (T []).ba (T []).bl (inBody T) ∧ SRow W d (T []).la (T []).ll (inElse T) := by
      intro i hi
      obtain ⟨bl, off, ce, m, y, e, hlen, hcell, hy⟩ := hel i hi
      obtain ⟨y0, y1, y2, y3, y4, n, _, g0, g1, g2, g3, g4⟩ := trod_struct5 Try.underlying81 hy
      obtain ⟨z0, a0, _, _⟩ := DataW.trod_int Try.underlying3 g0
      obtain ⟨z1, a1, _, s1⟩ := DataW.trod_string Try.underlying9 g1
      obtain ⟨ea, el, ec, E, a2, s2, hE⟩ := exprs 12 g2
      obtain ⟨ba, bn, bc, B, a3, s3, hB⟩ := ih g3
      obtain ⟨la, ln, lc, L, a4, s4, hL⟩ := ih g4
      simp only [cells3, cellsStr, cellsExprs, cellsStmts] at a0 a1 a2 a3 a4
      have k0 := (hcell 0 (by omega)).trans ((List.getElem?_eq_getElem (by omega)).symm.trans (cut _ _ _ a0))
      have k1 := (hcell 1 (by omega)).trans ((List.getElem?_eq_getElem (by omega)).symm.trans (cut _ _ _ a1))
      have k2 := (hcell 2 (by omega)).trans ((List.getElem?_eq_getElem (by omega)).symm.trans (cut _ _ _ a2))
      have k3 := (hcell 3 (by omega)).trans ((List.getElem?_eq_getElem (by omega)).symm.trans (cut _ _ _ a3))
      have k4 := (hcell 4 (by omega)).trans ((List.getElem?_eq_getElem (by omega)).symm.trans (cut _ _ _ a4))
      exact ⟨fun p => match p with | [] => ⟨z0, z1, ea, el, ec, E, ba, bn, bc, la, ln, lc⟩ | (false, j) :: p => B j p | (true, j) :: p => L j p, ⟨bl, off, e, k0, k1, k2, k3, k4⟩, ⟨s1, s2, s3, s4⟩, hE, hB, hL⟩
    have : Inhabited STree := ⟨fun _ => noStmt⟩
    obtain ⟨q, hq⟩ := Go.Deep.choose_lt each
    exact ⟨ao, len, cap, q, rfl, hl, hq⟩

theorem strings {fuel : Nat} {cs : List Value} {x : DataW H × List MemPlace} (h : DataW.trod enc Try.prog W 0 spare held fuel 34 cs = some x) :
    ∃ (ao : Option Addr) (len cap : Nat) (z : Nat → ByteArray), cs = [.slice ao len cap] ∧ len ≤ maxLen ∧ Strs W ao len z := by
  obtain ⟨ao, len, cap, rfl, hl, hel⟩ := elems (n := 1) (by omega) Try.underlying34 cellsStr h
  have each : ∀ i, i < len → ∃ z : ByteArray, (∃ bl off, ao = some ⟨bl, off, none⟩ ∧ W.cell? ⟨bl, off + i, none⟩ = some (.string z)) ∧ z.size ≤ maxLen := by
    intro i hi
    obtain ⟨bl, off, ce, m, y, e, hlen, hcell, hy⟩ := hel i hi
    obtain ⟨z, rfl, _, s⟩ := DataW.trod_string Try.underlying9 hy
    have := hcell 0 (by simp)
    rw [Nat.mul_one] at this
    exact ⟨z, ⟨bl, off, e, this⟩, s⟩
  have : Inhabited ByteArray := ⟨⟨#[]⟩⟩
  obtain ⟨q, hq⟩ := Go.Deep.choose_lt each
  exact ⟨ao, len, cap, q, rfl, hl, hq⟩

theorem arrays {fuel : Nat} {cs : List Value} {x : DataW H × List MemPlace} (h : DataW.trod enc Try.prog W 0 spare held fuel 35 cs = some x) :
    ∃ (ao : Option Addr) (len cap : Nat) (nm : Nat → ByteArray) (sz : Nat → Int), cs = [.slice ao len cap] ∧ len ≤ maxLen ∧ ARow W ao len nm sz := by
  obtain ⟨ao, len, cap, rfl, hl, hel⟩ := elems (n := 2) (by omega) Try.underlying35 cellsArr h
  have each : ∀ i, i < len → ∃ z : ByteArray × Int, (∃ bl off, ao = some ⟨bl, off, none⟩ ∧ W.cell? ⟨bl, off + i * 2, none⟩ = some (.string z.1) ∧ W.cell? ⟨bl, off + i * 2 + 1, none⟩ = some (.int .i64 z.2)) ∧ z.1.size ≤ maxLen := by
    intro i hi
    obtain ⟨bl, off, ce, m, y, e, hlen, hcell, hy⟩ := hel i hi
    obtain ⟨y0, y1, n, _, _, g0, g1⟩ := trod_struct2 Try.underlying49 hy
    obtain ⟨z0, a0, _, s0⟩ := DataW.trod_string Try.underlying9 g0
    obtain ⟨z1, a1, _, _⟩ := DataW.trod_int Try.underlying3 g1
    simp only [cells3, cellsStr] at a0 a1
    have k0 := (hcell 0 (by omega)).trans ((List.getElem?_eq_getElem (by omega)).symm.trans (cut _ _ _ a0))
    have k1 := (hcell 1 (by omega)).trans ((List.getElem?_eq_getElem (by omega)).symm.trans (cut _ _ _ a1))
    exact ⟨(z0, z1), ⟨bl, off, e, k0, k1⟩, s0⟩
  have : Inhabited (ByteArray × Int) := ⟨(⟨#[]⟩, 0)⟩
  obtain ⟨q, hq⟩ := Go.Deep.choose_lt each
  exact ⟨ao, len, cap, fun i => (q i).1, fun i => (q i).2, rfl, hl, hq⟩

def noFunc : FuncD := ⟨⟨#[]⟩, false, none, 0, 0, fun _ => ⟨#[]⟩, none, 0, 0, fun _ _ => noStmt⟩

theorem funcs {fuel : Nat} {cs : List Value} {x : DataW H × List MemPlace} (h : DataW.trod enc Try.prog W 0 spare held fuel 36 cs = some x) :
    ∃ (ao : Option Addr) (len cap : Nat) (F : Nat → FuncD), cs = [.slice ao len cap] ∧ len ≤ maxLen ∧ FRow W ao len F := by
  obtain ⟨ao, len, cap, rfl, hl, hel⟩ := elems (n := 4) (by omega) Try.underlying36 cellsFunc h
  have each : ∀ i, i < len → ∃ f : FuncD, (∃ bl off, ao = some ⟨bl, off, none⟩ ∧ W.cell? ⟨bl, off + i * 4, none⟩ = some (.string f.name) ∧ W.cell? ⟨bl, off + i * 4 + 1, none⟩ = some (.bool f.op) ∧
      W.cell? ⟨bl, off + i * 4 + 2, none⟩ = some (.slice f.pa f.pl f.pc) ∧ W.cell? ⟨bl, off + i * 4 + 3, none⟩ = some (.slice f.ba f.bl f.bc)) ∧ FuncLies W f := by
    intro i hi
    obtain ⟨bl, off, ce, m, y, e, hlen, hcell, hy⟩ := hel i hi
    obtain ⟨y0, y1, y2, y3, n, _, _, g0, g1, g2, g3⟩ := trod_struct4 Try.underlying52 hy
    obtain ⟨z0, a0, _, s0⟩ := DataW.trod_string Try.underlying9 g0
    obtain ⟨z1, a1, _⟩ := DataW.trod_bool Try.underlying4 g1
    obtain ⟨pa, pl, pc, ps, a2, s2, hP⟩ := strings g2
    obtain ⟨ba, bn, bc, B, a3, s3, hB⟩ := stmts 12 g3
    simp only [cells4, cellsStr, cellsStrs, cellsStmts] at a0 a1 a2 a3
    have k0 := (hcell 0 (by omega)).trans ((List.getElem?_eq_getElem (by omega)).symm.trans (cut _ _ _ a0))
    have k1 := (hcell 1 (by omega)).trans ((List.getElem?_eq_getElem (by omega)).symm.trans (cut _ _ _ a1))
    have k2 := (hcell 2 (by omega)).trans ((List.getElem?_eq_getElem (by omega)).symm.trans (cut _ _ _ a2))
    have k3 := (hcell 3 (by omega)).trans ((List.getElem?_eq_getElem (by omega)).symm.trans (cut _ _ _ a3))
    exact ⟨⟨z0, z1, pa, pl, pc, ps, ba, bn, bc, B⟩, ⟨bl, off, e, k0, k1, k2, k3⟩, s0, s2, s3, hP, hB⟩
  have : Inhabited FuncD := ⟨noFunc⟩
  obtain ⟨q, hq⟩ := Go.Deep.choose_lt each
  exact ⟨ao, len, cap, q, rfl, hl, hq⟩

set_option maxRecDepth 100000 in
/-- a unit, by value -/
theorem unit {b0 : Nat} {v : Value} {d : DataW H} {p : List MemPlace} (hv : Value.okWide Try.prog W .any b0 38 v) (h : DataW.Trod enc Try.prog W 0 spare held 38 v d p) :
    ∃ u : UnitD, v = .agg #[.string u.name, .slice u.va u.vl u.vc, .slice u.aa u.al u.ac, .slice u.fa u.fl u.fc] ∧ UnitLies W u := by
  obtain ⟨cs, rfl, hsz⟩ := okWide_struct Try.underlying38 hv
  rw [cellsUnit] at hsz
  obtain ⟨c0, c1, c2, c3, rfl⟩ := array4 hsz
  obtain ⟨fuel, hf⟩ := h
  obtain ⟨y0, y1, y2, y3, n, _, _, g0, g1, g2, g3⟩ := trod_struct4 Try.underlying38 hf
  obtain ⟨z0, a0, _, s0⟩ := DataW.trod_string Try.underlying9 g0
  obtain ⟨va, vl, vc, vs, a1, s1, hV⟩ := strings g1
  obtain ⟨aa, al, ac, an, az, a2, s2, hA⟩ := arrays g2
  obtain ⟨fa, fl, fc, fs, a3, s3, hF⟩ := funcs g3
  simp [Value.cells, cellsStr, cellsStrs, cellsArrs, cellsFuncs] at a0 a1 a2 a3
  exact ⟨⟨z0, va, vl, vc, vs, aa, al, ac, an, az, fa, fl, fc, fs⟩, by rw [a0, a1, a2, a3], ⟨s0, s1, s2, s3⟩, hV, hA, hF⟩
end
end Go.Proofs.Ytalnfnkpemojhaa.Opened

namespace Go.Proofs.Ytalnfnkpemojhaa.NUOpen
open Go.ChangeShapes Go.WideShapes Go.ChangeAt Go.RowKit Go.Joins Trees NSense Opened

section
variable {H : Type} {enc : TypeId × Value → H} {W : World} {spare : Nat → Bool} {held : Bool}

theorem caps {fuel : Nat} {cs : List Value} {x : DataW H × List MemPlace} {ao : Option Addr} {len cap : Nat} (h : DataW.trod enc Try.prog W 0 spare held fuel 34 cs = some x) (e : cs = [.slice ao len cap]) : len ≤ cap ∧ cap ≤ maxLen := by
  rcases Go.Deep.open_slice Try.underlying34 h with ⟨rfl, _⟩ | ⟨ad, l, c, m, k, D, Pl, rfl, _, h1, h2, _⟩
  · simp only [List.cons.injEq, Value.slice.injEq, and_true] at e
    obtain ⟨_, rfl, rfl⟩ := e
    exact ⟨Nat.le_refl _, Nat.zero_le _⟩
  · simp only [List.cons.injEq, Value.slice.injEq, and_true] at e
    obtain ⟨_, rfl, rfl⟩ := e
    exact ⟨h1, h2⟩

def Roomy (len : Nat) (F : Nat → FuncD) : Prop := ∀ k, k < len → (F k).pl ≤ (F k).pc ∧ (F k).pc ≤ maxLen

theorem funcs {fuel : Nat} {cs : List Value} {x : DataW H × List MemPlace} (h : DataW.trod enc Try.prog W 0 spare held fuel 36 cs = some x) :
    ∃ (ao : Option Addr) (len cap : Nat) (F : Nat → FuncD), cs = [.slice ao len cap] ∧ len ≤ maxLen ∧ FRow W ao len F ∧ Roomy len F := by
  obtain ⟨ao, len, cap, rfl, hl, hel⟩ := elems (n := 4) (by omega) Try.underlying36 cellsFunc h
  have each : ∀ i, i < len → ∃ f : FuncD, ((∃ bl off, ao = some ⟨bl, off, none⟩ ∧ W.cell? ⟨bl, off + i * 4, none⟩ = some (.string f.name) ∧ W.cell? ⟨bl, off + i * 4 + 1, none⟩ = some (.bool f.op) ∧
      W.cell? ⟨bl, off + i * 4 + 2, none⟩ = some (.slice f.pa f.pl f.pc) ∧ W.cell? ⟨bl, off + i * 4 + 3, none⟩ = some (.slice f.ba f.bl f.bc)) ∧ FuncLies W f) ∧ (f.pl ≤ f.pc ∧ f.pc ≤ maxLen) := by
    intro i hi
    obtain ⟨bl, off, ce, m, y, e, hlen, hcell, hy⟩ := hel i hi
    obtain ⟨y0, y1, y2, y3, n, _, _, g0, g1, g2, g3⟩ := trod_struct4 Try.underlying52 hy
    obtain ⟨z0, a0, _, s0⟩ := DataW.trod_string Try.underlying9 g0
    obtain ⟨z1, a1, _⟩ := DataW.trod_bool Try.underlying4 g1
    obtain ⟨pa, pl, pc, ps, a2, s2, hP⟩ := strings g2
    obtain ⟨ba, bn, bc, B, a3, s3, hB⟩ := stmts 12 g3
    have hc := caps g2 a2
    simp only [cells4, cellsStr, cellsStrs, cellsStmts] at a0 a1 a2 a3
    have k0 := (hcell 0 (by omega)).trans ((List.getElem?_eq_getElem (by omega)).symm.trans (cut _ _ _ a0))
    have k1 := (hcell 1 (by omega)).trans ((List.getElem?_eq_getElem (by omega)).symm.trans (cut _ _ _ a1))
    have k2 := (hcell 2 (by omega)).trans ((List.getElem?_eq_getElem (by omega)).symm.trans (cut _ _ _ a2))
    have k3 := (hcell 3 (by omega)).trans ((List.getElem?_eq_getElem (by omega)).symm.trans (cut _ _ _ a3))
    exact ⟨⟨z0, z1, pa, pl, pc, ps, ba, bn, bc, B⟩, ⟨⟨bl, off, e, k0, k1, k2, k3⟩, s0, s2, s3, hP, hB⟩, hc⟩
  have : Inhabited FuncD := ⟨noFunc⟩
  obtain ⟨q, hq⟩ := Go.Deep.choose_lt each
  exact ⟨ao, len, cap, q, rfl, hl, fun i hi => (hq i hi).1, fun i hi => (hq i hi).2⟩

set_option maxRecDepth 100000 in
theorem units {fuel : Nat} {cs : List Value} {x : DataW H × List MemPlace} (h : DataW.trod enc Try.prog W 0 spare held fuel 22 cs = some x) :
    ∃ (ao : Option Addr) (len cap : Nat) (U : Nat → UnitD), cs = [.slice ao len cap] ∧ len ≤ maxLen ∧ URow W ao len U ∧ ∀ i, i < len → Roomy (U i).fl (U i).fs := by
  obtain ⟨ao, len, cap, rfl, hl, hel⟩ := elems (n := 4) (by omega) Try.underlying22 cellsUnit h
  have each : ∀ i, i < len → ∃ u : UnitD, ((∃ bl off, ao = some ⟨bl, off, none⟩ ∧ W.cell? ⟨bl, off + i * 4, none⟩ = some (.string u.name) ∧ W.cell? ⟨bl, off + i * 4 + 1, none⟩ = some (.slice u.va u.vl u.vc) ∧
      W.cell? ⟨bl, off + i * 4 + 2, none⟩ = some (.slice u.aa u.al u.ac) ∧ W.cell? ⟨bl, off + i * 4 + 3, none⟩ = some (.slice u.fa u.fl u.fc)) ∧ UnitLies W u) ∧ Roomy u.fl u.fs := by
    intro i hi
    obtain ⟨bl, off, ce, m, y, e, hlen, hcell, hy⟩ := hel i hi
    obtain ⟨y0, y1, y2, y3, n, _, _, g0, g1, g2, g3⟩ := trod_struct4 Try.underlying38 hy
    obtain ⟨z0, a0, _, s0⟩ := DataW.trod_string Try.underlying9 g0
    obtain ⟨va, vl, vc, vs, a1, s1, hV⟩ := strings g1
    obtain ⟨aa, al, ac, an, az, a2, s2, hA⟩ := arrays g2
    obtain ⟨fa, fl, fc, fs, a3, s3, hF, hR⟩ := funcs g3
    simp only [cellsStr, cellsStrs, cellsArrs, cellsFuncs] at a0 a1 a2 a3
    have k0 := (hcell 0 (by omega)).trans ((List.getElem?_eq_getElem (by omega)).symm.trans (cut _ _ _ a0))
    have k1 := (hcell 1 (by omega)).trans ((List.getElem?_eq_getElem (by omega)).symm.trans (cut _ _ _ a1))
    have k2 := (hcell 2 (by omega)).trans ((List.getElem?_eq_getElem (by omega)).symm.trans (cut _ _ _ a2))
    have k3 := (hcell 3 (by omega)).trans ((List.getElem?_eq_getElem (by omega)).symm.trans (cut _ _ _ a3))
    exact ⟨⟨z0, va, vl, vc, vs, aa, al, ac, an, az, fa, fl, fc, fs⟩, ⟨⟨bl, off, e, k0, k1, k2, k3⟩, ⟨s0, s1, s2, s3⟩, hV, hA, hF⟩, hR⟩
  have : Inhabited UnitD := ⟨⟨⟨#[]⟩, none, 0, 0, fun _ => ⟨#[]⟩, none, 0, 0, fun _ => ⟨#[]⟩, fun _ => 0, none, 0, 0, fun _ => noFunc⟩⟩
  obtain ⟨q, hq⟩ := Go.Deep.choose_lt each
  exact ⟨ao, len, cap, q, rfl, hl, fun i hi => (hq i hi).1, fun i hi => (hq i hi).2⟩
end
end Go.Proofs.Ytalnfnkpemojhaa.NUOpen
