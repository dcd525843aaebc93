/-
  AN IMAGE AND A LIST OF NUMBERS THAT ARE HANDED IN, OPENED: each part, instruction, entry and number lies where it is looked for.
  Conditions: the argument reads as its type says.
-/
import Derived.Test.YthjfnpbdmknokabDoorImg
import Derived.Deep.Slices
import Derived.Lib.SmallJoins
import Derived.OpenShut
namespace Go.Proofs.YthjfnpbdmknokabDoor.Open
open Go.ChangeShapes Go.WideShapes Go.ChangeAt Go.RowKit Go.Joins Tab Go.Proofs.YthjfnpbdmknokabDoor.Check Lists Go.Proofs.YthjfnpbdmknokabDoor.Read Img

theorem own : ownKnob Tryd.prog.godebug = none := by kernel_rfl
theorem cells38 : Tryd.prog.cellsOf 38 = 4 := by kernel_rfl
theorem cells56 : Tryd.prog.cellsOf 56 = 2 := by kernel_rfl
theorem cells54 : Tryd.prog.cellsOf 54 = 4 := by kernel_rfl
theorem cells23 : Tryd.prog.cellsOf 23 = 1 := by kernel_rfl
theorem cells52 : Tryd.prog.cellsOf 52 = 1 := by kernel_rfl
theorem cells25 : Tryd.prog.cellsOf 25 = 1 := by kernel_rfl
theorem cells27 : Tryd.prog.cellsOf 27 = 1 := by kernel_rfl
theorem laidOut : laidOutB Tryd.prog = true := by kernel_rfl

theorem cut (l : List Value) (j : Nat) (v : Value) (hl : (l.drop j).take 1 = [v]) : l[j]? = some v := by
  have := congrArg (·[0]?) hl
  simpa [List.getElem?_drop] using this

section
variable {H : Type} {enc : TypeId × Value → H} {W : World} {spare : Nat → Bool} {held : Bool}

theorem numbers {fuel : Nat} {cs : List Value} {x : DataW H × List MemPlace} (h : DataW.trod enc Tryd.prog W 0 spare held fuel 28 cs = some x) :
    ∃ (ao : Option Addr) (len cap : Nat) (z : Nat → Int), cs = [.slice ao len cap] ∧ len ≤ maxLen ∧ Ints W ao len z := by
  rcases Go.Deep.open_slice1 Tryd.underlying28 cells3 h with ⟨rfl, _⟩ | ⟨ad, len, cap, m, n, V, D, Pl, rfl, _, hle, hcap, hm, _, hel⟩
  · exact ⟨none, 0, 0, fun _ => 0, rfl, Nat.zero_le _, fun k hk => absurd hk (by omega)⟩
  · have each : ∀ i, i < len → ∃ q : Int, W.cell? (ad.add i) = some (.int .i64 q) := by
      intro i hi
      obtain ⟨h1, h2⟩ := hel i (by rw [hm]; split <;> omega)
      obtain ⟨z0, a0, _, _⟩ := DataW.trod_int Tryd.underlying3 h2
      simp at a0
      exact ⟨z0, by rw [h1, a0]⟩
    obtain ⟨z, hz⟩ := Go.Deep.choose_lt each
    refine ⟨some ad, len, cap, z, rfl, by omega, fun k hk => ?_⟩
    obtain ⟨bl, off, spot⟩ := ad
    have hspot : spot = none := by simpa [Addr.add] using World.cell?_spot (hz 0 (by omega))
    subst hspot
    exact ⟨bl, off, rfl, fun j hj => by rw [← Go.WideShapes.add_plain]; exact hz j hj⟩

theorem instrs {fuel : Nat} {cs : List Value} {x : DataW H × List MemPlace} (h : DataW.trod enc Tryd.prog W 0 spare held fuel 23 cs = some x) :
    ∃ (ao : Option Addr) (len cap : Nat) (o a b c : Nat → Int), cs = [.slice ao len cap] ∧ Instrs W ao len o a b c := by
  rcases Go.Deep.open_slice Tryd.underlying23 h with ⟨rfl, _⟩ | ⟨ad, len, cap, m, n, D, Pl, rfl, _, hle, _, hm, _, hel⟩
  · exact ⟨none, 0, 0, fun _ => 0, fun _ => 0, fun _ => 0, fun _ => 0, rfl, fun k hk => absurd hk (by omega)⟩
  · have look : ∀ i, i < len → ∃ q : Int × Int × Int × Int, W.cell? (ad.add (i * 4 + 0)) = some (.int .i64 q.1) ∧ W.cell? (ad.add (i * 4 + 1)) = some (.int .i64 q.2.1) ∧
        W.cell? (ad.add (i * 4 + 2)) = some (.int .i64 q.2.2.1) ∧ W.cell? (ad.add (i * 4 + 3)) = some (.int .i64 q.2.2.2) := by
      intro i hi
      obtain ⟨cs', h1, h2⟩ := hel i (by rw [hm]; split <;> omega)
      rw [cells38] at h1
      obtain ⟨_, hlen, hcell⟩ := World.cells?_some h1
      obtain ⟨y0, y1, y2, y3, n', hx, _, g0, g1, g2, g3⟩ := trod_struct4 Tryd.underlying38 h2
      obtain ⟨z0, a0, _, _⟩ := DataW.trod_int Tryd.underlying3 g0
      obtain ⟨z1, a1, _, _⟩ := DataW.trod_int Tryd.underlying3 g1
      obtain ⟨z2, a2, _, _⟩ := DataW.trod_int Tryd.underlying3 g2
      obtain ⟨z3, a3, _, _⟩ := DataW.trod_int Tryd.underlying3 g3
      simp only [cells3] at a0 a1 a2 a3
      have k0 := hcell 0 (by omega)
      have k1 := hcell 1 (by omega)
      have k2 := hcell 2 (by omega)
      have k3 := hcell 3 (by omega)
      rw [Go.Deep.add_add] at k0 k1 k2 k3
      exact ⟨(z0, z1, z2, z3), k0.trans (cut _ _ _ a0), k1.trans (cut _ _ _ a1), k2.trans (cut _ _ _ a2), k3.trans (cut _ _ _ a3)⟩
    have each : ∀ i, i < len → ∃ q : Int × Int × Int × Int, ∃ bl off, ad = ⟨bl, off, none⟩ ∧ W.cell? ⟨bl, off + i * 4, none⟩ = some (.int .i64 q.1) ∧ W.cell? ⟨bl, off + i * 4 + 1, none⟩ = some (.int .i64 q.2.1) ∧
        W.cell? ⟨bl, off + i * 4 + 2, none⟩ = some (.int .i64 q.2.2.1) ∧ W.cell? ⟨bl, off + i * 4 + 3, none⟩ = some (.int .i64 q.2.2.2) := by
      intro i hi
      obtain ⟨q0, t0, _⟩ := look 0 (by omega)
      obtain ⟨bl, off, spot⟩ := ad
      have hspot : spot = none := by simpa [Addr.add] using World.cell?_spot t0
      subst hspot
      obtain ⟨q, u0, u1, u2, u3⟩ := look i hi
      rw [Go.WideShapes.add_plain] at u0 u1 u2 u3
      exact ⟨q, bl, off, rfl, u0, u1, u2, u3⟩
    obtain ⟨q, hq⟩ := Go.Deep.choose_lt each
    refine ⟨some ad, len, cap, fun i => (q i).1, fun i => (q i).2.1, fun i => (q i).2.2.1, fun i => (q i).2.2.2, rfl, fun k hk => ?_⟩
    obtain ⟨bl, off, rfl, t⟩ := hq k hk
    exact ⟨bl, off, rfl, t⟩

theorem entries {fuel : Nat} {cs : List Value} {x : DataW H × List MemPlace} (h : DataW.trod enc Tryd.prog W 0 spare held fuel 52 cs = some x) :
    ∃ (ao : Option Addr) (len cap : Nat) (t r : Nat → Int), cs = [.slice ao len cap] ∧ Entries W ao len t r := by
  rcases Go.Deep.open_slice Tryd.underlying52 h with ⟨rfl, _⟩ | ⟨ad, len, cap, m, n, D, Pl, rfl, _, hle, _, hm, _, hel⟩
  · exact ⟨none, 0, 0, fun _ => 0, fun _ => 0, rfl, fun k hk => absurd hk (by omega)⟩
  · have look : ∀ i, i < len → ∃ q : Int × Int, W.cell? (ad.add (i * 2 + 0)) = some (.int .i64 q.1) ∧ W.cell? (ad.add (i * 2 + 1)) = some (.int .i64 q.2) := by
      intro i hi
      obtain ⟨cs', h1, h2⟩ := hel i (by rw [hm]; split <;> omega)
      rw [cells56] at h1
      obtain ⟨_, hlen, hcell⟩ := World.cells?_some h1
      obtain ⟨y0, y1, n', hx, _, g0, g1⟩ := trod_struct2 Tryd.underlying56 h2
      obtain ⟨z0, a0, _, _⟩ := DataW.trod_int Tryd.underlying3 g0
      obtain ⟨z1, a1, _, _⟩ := DataW.trod_int Tryd.underlying3 g1
      simp only [cells3] at a0 a1
      have k0 := hcell 0 (by omega)
      have k1 := hcell 1 (by omega)
      rw [Go.Deep.add_add] at k0 k1
      exact ⟨(z0, z1), k0.trans (cut _ _ _ a0), k1.trans (cut _ _ _ a1)⟩
    have each : ∀ i, i < len → ∃ q : Int × Int, ∃ bl off, ad = ⟨bl, off, none⟩ ∧ W.cell? ⟨bl, off + i * 2, none⟩ = some (.int .i64 q.1) ∧ W.cell? ⟨bl, off + i * 2 + 1, none⟩ = some (.int .i64 q.2) := by
      intro i hi
      obtain ⟨q0, t0, _⟩ := look 0 (by omega)
      obtain ⟨bl, off, spot⟩ := ad
      have hspot : spot = none := by simpa [Addr.add] using World.cell?_spot t0
      subst hspot
      obtain ⟨q, u0, u1⟩ := look i hi
      rw [Go.WideShapes.add_plain] at u0 u1
      exact ⟨q, bl, off, rfl, u0, u1⟩
    obtain ⟨q, hq⟩ := Go.Deep.choose_lt each
    refine ⟨some ad, len, cap, fun i => (q i).1, fun i => (q i).2, rfl, fun k hk => ?_⟩
    obtain ⟨bl, off, rfl, t⟩ := hq k hk
    exact ⟨bl, off, rfl, t⟩

def noPart : PartD := ⟨none, 0, 0, fun _ => 0, fun _ => 0, fun _ => 0, fun _ => 0, none, 0, 0, fun _ => 0, fun _ => 0, 0, 0⟩

theorem parts {fuel : Nat} {cs : List Value} {x : DataW H × List MemPlace} (h : DataW.trod enc Tryd.prog W 0 spare held fuel 25 cs = some x) :
    ∃ (ao : Option Addr) (len cap : Nat) (P : Nat → PartD), cs = [.slice ao len cap] ∧ len ≤ maxLen ∧ Parts W ao len P := by
  rcases Go.Deep.open_slice Tryd.underlying25 h with ⟨rfl, _⟩ | ⟨ad, len, cap, m, n, D, Pl, rfl, _, hle, hcap, hm, _, hel⟩
  · exact ⟨none, 0, 0, fun _ => noPart, rfl, Nat.zero_le _, fun k hk => absurd hk (by omega)⟩
  · have look : ∀ i, i < len → ∃ q : PartD, (W.cell? (ad.add (i * 4 + 0)) = some (.slice q.ca q.cl q.cc) ∧ W.cell? (ad.add (i * 4 + 1)) = some (.slice q.ea q.el q.ec) ∧
        W.cell? (ad.add (i * 4 + 2)) = some (.int .i64 q.lo) ∧ W.cell? (ad.add (i * 4 + 3)) = some (.int .i64 q.hi)) ∧ PartLies W q := by
      intro i hi
      obtain ⟨cs', h1, h2⟩ := hel i (by rw [hm]; split <;> omega)
      rw [cells54] at h1
      obtain ⟨_, hlen, hcell⟩ := World.cells?_some h1
      obtain ⟨y0, y1, y2, y3, n', hx, _, g0, g1, g2, g3⟩ := trod_struct4 Tryd.underlying54 h2
      obtain ⟨ca, cl, cc, o, a, b, c, a0, b0⟩ := instrs g0
      obtain ⟨ea, el, ec, t, r, a1, b1⟩ := entries g1
      obtain ⟨z2, a2, _, _⟩ := DataW.trod_int Tryd.underlying3 g2
      obtain ⟨z3, a3, _, _⟩ := DataW.trod_int Tryd.underlying3 g3
      simp only [cells3, cells23, cells52] at a0 a1 a2 a3
      have k0 := hcell 0 (by omega)
      have k1 := hcell 1 (by omega)
      have k2 := hcell 2 (by omega)
      have k3 := hcell 3 (by omega)
      rw [Go.Deep.add_add] at k0 k1 k2 k3
      exact ⟨⟨ca, cl, cc, o, a, b, c, ea, el, ec, t, r, z2, z3⟩, ⟨k0.trans (cut _ _ _ a0), k1.trans (cut _ _ _ a1), k2.trans (cut _ _ _ a2), k3.trans (cut _ _ _ a3)⟩, b0, b1⟩
    have each : ∀ i, i < len → ∃ q : PartD, (∃ bl off, some ad = some ⟨bl, off, none⟩ ∧ W.cell? ⟨bl, off + i * 4, none⟩ = some (.slice q.ca q.cl q.cc) ∧ W.cell? ⟨bl, off + i * 4 + 1, none⟩ = some (.slice q.ea q.el q.ec) ∧
        W.cell? ⟨bl, off + i * 4 + 2, none⟩ = some (.int .i64 q.lo) ∧ W.cell? ⟨bl, off + i * 4 + 3, none⟩ = some (.int .i64 q.hi)) ∧ PartLies W q := by
      intro i hi
      obtain ⟨q0, ⟨t0, _⟩, _⟩ := look 0 (by omega)
      obtain ⟨bl, off, spot⟩ := ad
      have hspot : spot = none := by simpa [Addr.add] using World.cell?_spot t0
      subst hspot
      obtain ⟨q, ⟨u0, u1, u2, u3⟩, hq⟩ := look i hi
      rw [Go.WideShapes.add_plain] at u0 u1 u2 u3
      exact ⟨q, ⟨bl, off, rfl, u0, u1, u2, u3⟩, hq⟩
    have : Inhabited PartD := ⟨noPart⟩
    obtain ⟨q, hq⟩ := Go.Deep.choose_lt each
    exact ⟨some ad, len, cap, q, rfl, by omega, hq⟩

/-- an image, by value -/
theorem image {b0 : Nat} {v : Value} {d : DataW H} {p : List MemPlace} (hv : Value.okWide Tryd.prog W .any b0 27 v) (h : DataW.Trod enc Tryd.prog W 0 spare held 27 v d p) :
    ∃ (ao : Option Addr) (len cap : Nat) (P : Nat → PartD), v = .agg #[.slice ao len cap] ∧ len ≤ maxLen ∧ Parts W ao len P := by
  obtain ⟨cs, rfl, hsz⟩ := okWide_struct Tryd.underlying27 hv
  rw [cells27] at hsz
  obtain ⟨c0, rfl⟩ : ∃ c0, cs = #[c0] := by
    obtain ⟨l⟩ := cs
    match l, hsz with
    | [c0], _ => exact ⟨c0, rfl⟩
  obtain ⟨fuel, hf⟩ := h
  obtain ⟨y0, n, _, _, g0⟩ := trod_struct1 Tryd.underlying27 hf
  obtain ⟨ao, len, cap, P, hcs, hl, hP⟩ := parts g0
  simp [Value.cells, cells25] at hcs
  exact ⟨ao, len, cap, P, by rw [hcs], hl, hP⟩
end
end Go.Proofs.YthjfnpbdmknokabDoor.Open
