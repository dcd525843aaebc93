/-
  A LIST OF CELLS THAT IS HANDED IN, OPENED: each number lies where it is looked for; and how many bytes its lists take at most.
  Conditions: the argument reads as its type says.
-/
import Derived.Test.YtalnfnkpemojhaaECells
import Derived.Deep.Slices
import Derived.Lib.SmallJoins
import Derived.OpenShut
import Derived.SizedLaws
namespace Go.Proofs.Ytalnfnkpemojhaa.EOpen
open Go.ChangeShapes Go.WideShapes Go.ChangeAt Go.RowKit Go.Joins ECells

theorem cellsInt : Try.prog.cellsOf 3 = 1 := by kernel_rfl
theorem cellsInts : Try.prog.cellsOf 54 = 1 := by kernel_rfl
theorem cellsRows : Try.prog.cellsOf 55 = 1 := by kernel_rfl
theorem cellsCells : Try.prog.cellsOf 57 = 2 := by kernel_rfl
theorem bytesInt : Try.prog.bytesOf 3 = 8 := by kernel_rfl
theorem bytesInts : Try.prog.bytesOf 54 = 24 := by kernel_rfl
theorem bytesCells : Try.prog.bytesOf 57 = 48 := by kernel_rfl

theorem cut (l : List Value) (j : Nat) (v : Value) (hl : (l.drop j).take 1 = [v]) : l[j]? = some v := by
  have := congrArg (·[0]?) hl
  simpa [List.getElem?_drop] using this

theorem in_all {H : Type} {P : Program} {e : TypeId} : ∀ {l : List (DataW H)} {d : DataW H}, d ∈ l → ∀ m ∈ d.weights P e, m ∈ DataW.weightsAll P e l
  | d0 :: r, d, hd, m, hm => by
    rw [DataW.weightsAll, List.mem_append]
    rcases List.mem_cons.1 hd with rfl | h
    · exact .inl hm
    · exact .inr (in_all h m hm)
  | [], _, hd, _, _ => by cases hd

/-- a slice that takes no more bytes than may be, and its elements likewise -/
theorem weigh {H : Type} {t e : TypeId} {len k : Nat} {D D' : Nat → DataW H} (ht : Try.prog.underlying t = some (.slice e)) (h : ∀ m ∈ (DataW.slice ((List.range len).map D) ((List.range k).map D')).weights Try.prog t, m ≤ reachBytes) :
    len * Try.prog.bytesOf e ≤ reachBytes ∧ ∀ i, i < len → ∀ m ∈ (D i).weights Try.prog e, m ≤ reachBytes := by
  constructor
  · have := h (((List.range len).map D).length * Try.prog.bytesOf e + ((List.range k).map D').length * Try.prog.bytesOf e) (by simp [DataW.weights, ht, Nat.add_mul])
    simp only [List.length_map, List.length_range] at this
    omega
  · intro i hi m hm
    refine h m ?_
    simp only [DataW.weights, ht, List.mem_cons, List.mem_append]
    exact .inr (.inl (in_all (List.mem_map.2 ⟨i, List.mem_range.2 hi, rfl⟩) m hm))

section
variable {H : Type} {enc : TypeId × Value → H} {W : World} {spare : Nat → Bool} {held : Bool}

theorem nums {fuel : Nat} {cs : List Value} {x : DataW H × List MemPlace} (h : DataW.trod enc Try.prog W 0 spare held fuel 54 cs = some x) :
    ∃ (ao : Option Addr) (len cap : Nat) (z : Nat → Int), cs = [.slice ao len cap] ∧ len ≤ maxLen ∧ Nums W ao len z ∧ ((∀ m ∈ x.1.weights Try.prog 54, m ≤ reachBytes) → len * 8 ≤ reachBytes) := by
  rcases Go.Deep.open_slice1 Try.underlying54 cellsInt h with ⟨rfl, _⟩ | ⟨ad, len, cap, m, n, V, D, Pl, rfl, _, hle, hcap, hm, hx, hel⟩
  · exact ⟨none, 0, 0, fun _ => 0, rfl, Nat.zero_le _, fun k hk => absurd hk (by omega), fun _ => by omega⟩
  · have each : ∀ i, i < len → ∃ q : Int, W.cell? (ad.add i) = some (.int .i64 q) := by
      intro i hi
      obtain ⟨h1, h2⟩ := hel i (by rw [hm]; split <;> omega)
      obtain ⟨z0, a0, _, _⟩ := DataW.trod_int Try.underlying3 h2
      simp at a0
      exact ⟨z0, by rw [h1, a0]⟩
    obtain ⟨z, hz⟩ := Go.Deep.choose_lt each
    refine ⟨some ad, len, cap, z, rfl, by omega, fun k hk => ?_, fun hw => ?_⟩
    · obtain ⟨bl, off, spot⟩ := ad
      have hspot : spot = none := by simpa [Addr.add] using World.cell?_spot (hz 0 (by omega))
      subst hspot
      exact ⟨bl, off, rfl, by rw [← Go.WideShapes.add_plain]; exact hz k hk⟩
    · rw [hx] at hw
      have := (weigh Try.underlying54 hw).1
      rwa [bytesInt] at this

def Sized1 (n : Nat) (ll : Nat → Nat) : Prop := ∀ i, i < n → ll i * 8 ≤ reachBytes

theorem rows {fuel : Nat} {cs : List Value} {x : DataW H × List MemPlace} (h : DataW.trod enc Try.prog W 0 spare held fuel 55 cs = some x) :
    ∃ (ao : Option Addr) (len cap : Nat) (ll : Nat → Nat) (an : Nat → Nat → Int), cs = [.slice ao len cap] ∧ len ≤ maxLen ∧ IRow W ao len ll an ∧ ((∀ m ∈ x.1.weights Try.prog 55, m ≤ reachBytes) → len * 24 ≤ reachBytes ∧ Sized1 len ll) := by
  rcases Go.Deep.open_slice1 Try.underlying55 cellsInts h with ⟨rfl, _⟩ | ⟨ad, len, cap, m, n, V, D, Pl, rfl, _, hle, hcap, hm, hx, hel⟩
  · exact ⟨none, 0, 0, fun _ => 0, fun _ _ => 0, rfl, Nat.zero_le _, fun k hk => absurd hk (by omega), fun _ => ⟨by omega, fun k hk => absurd hk (by omega)⟩⟩
  · have each : ∀ i, i < len → ∃ q : Nat × (Nat → Int), (∃ r c, W.cell? (ad.add i) = some (.slice r q.1 c) ∧ q.1 ≤ maxLen ∧ Nums W r q.1 q.2) ∧ ((∀ m ∈ (D i).weights Try.prog 54, m ≤ reachBytes) → q.1 * 8 ≤ reachBytes) := by
      intro i hi
      obtain ⟨h1, h2⟩ := hel i (by rw [hm]; split <;> omega)
      obtain ⟨r, l, c, z, e, hl, hn, hw⟩ := nums h2
      simp at e
      exact ⟨(l, z), ⟨r, c, by rw [h1, e], hl, hn⟩, hw⟩
    have : Inhabited (Nat × (Nat → Int)) := ⟨(0, fun _ => 0)⟩
    obtain ⟨q, hq⟩ := Go.Deep.choose_lt each
    refine ⟨some ad, len, cap, fun i => (q i).1, fun i => (q i).2, rfl, by omega, fun k hk => ?_, fun hw => ?_⟩
    · obtain ⟨⟨r, c, h1, hl, hn⟩, _⟩ := hq k hk
      obtain ⟨⟨_, _, h0, _⟩, _⟩ := hq 0 (by omega)
      obtain ⟨bl, off, spot⟩ := ad
      have hspot : spot = none := by simpa [Addr.add] using World.cell?_spot h0
      subst hspot
      exact ⟨bl, off, r, c, rfl, by rw [← Go.WideShapes.add_plain]; exact h1, hl, hn⟩
    · rw [hx] at hw
      have h3 := weigh Try.underlying55 hw
      rw [bytesInts] at h3
      exact ⟨h3.1, fun i hi => (hq i hi).2 (h3.2 i hi)⟩

def Sized (n : Nat) (C : Nat → CellD) : Prop := ∀ i, i < n → (C i).vl * 8 ≤ reachBytes ∧ (C i).al * 24 ≤ reachBytes ∧ Sized1 (C i).al (C i).ll

theorem cells {fuel : Nat} {cs : List Value} {x : DataW H × List MemPlace} (h : DataW.trod enc Try.prog W 0 spare held fuel 26 cs = some x) :
    ∃ (ao : Option Addr) (len cap : Nat) (C : Nat → CellD), cs = [.slice ao len cap] ∧ len ≤ maxLen ∧ CRow W ao len C ∧ ((∀ m ∈ x.1.weights Try.prog 26, m ≤ reachBytes) → len * 48 ≤ reachBytes ∧ Sized len C) := by
  rcases Go.Deep.open_slice Try.underlying26 h with ⟨rfl, _⟩ | ⟨ad, len, cap, m, n, D, Pl, rfl, _, hle, hcap, hm, hx, hel⟩
  · exact ⟨none, 0, 0, fun _ => ⟨0, fun _ => 0, 0, fun _ => 0, fun _ _ => 0⟩, rfl, Nat.zero_le _, fun k hk => absurd hk (by omega), fun _ => ⟨by omega, fun k hk => absurd hk (by omega)⟩⟩
  · have each : ∀ i, i < len → ∃ c : CellD, (∃ va vc aa ac, (W.cell? (ad.add (i * 2 + 0)) = some (.slice va c.vl vc) ∧ W.cell? (ad.add (i * 2 + 1)) = some (.slice aa c.al ac)) ∧ (c.vl ≤ maxLen ∧ c.al ≤ maxLen) ∧ Nums W va c.vl c.vs ∧ IRow W aa c.al c.ll c.an) ∧
        ((∀ m ∈ (D i).weights Try.prog 57, m ≤ reachBytes) → c.vl * 8 ≤ reachBytes ∧ c.al * 24 ≤ reachBytes ∧ Sized1 c.al c.ll) := by
      intro i hi
      obtain ⟨cs', h1, h2⟩ := hel i (by rw [hm]; split <;> omega)
      rw [cellsCells] at h1
      obtain ⟨_, hlen, hcell⟩ := World.cells?_some h1
      obtain ⟨y0, y1, n', hy, _, g0, g1⟩ := trod_struct2 Try.underlying57 h2
      obtain ⟨va, vl, vc, vs, a0, s0, hv, w0⟩ := nums g0
      obtain ⟨aa, al, ac, ll, an, a1, s1, ha, w1⟩ := rows g1
      simp only [cellsInts, cellsRows] at a0 a1
      have k0 := hcell 0 (by omega)
      have k1 := hcell 1 (by omega)
      rw [Go.Deep.add_add] at k0 k1
      refine ⟨⟨vl, vs, al, ll, an⟩, ⟨va, vc, aa, ac, ⟨k0.trans (cut _ _ _ a0), k1.trans (cut _ _ _ a1)⟩, ⟨s0, s1⟩, hv, ha⟩, fun hw => ?_⟩
      have hD : D i = .agg [y0.1, y1.1] := congrArg Prod.fst hy
      rw [hD] at hw
      have e0 := w0 fun m hm => hw m (by simp [DataW.weights, Try.underlying57, DataW.weightsEach]; exact .inl hm)
      have e1 := w1 fun m hm => hw m (by simp [DataW.weights, Try.underlying57, DataW.weightsEach]; exact .inr hm)
      exact ⟨e0, e1.1, e1.2⟩
    have : Inhabited CellD := ⟨⟨0, fun _ => 0, 0, fun _ => 0, fun _ _ => 0⟩⟩
    obtain ⟨q, hq⟩ := Go.Deep.choose_lt each
    refine ⟨some ad, len, cap, q, rfl, by omega, fun k hk => ?_, fun hw => ?_⟩
    · obtain ⟨⟨va, vc, aa, ac, ⟨h0, h1⟩, r⟩, _⟩ := hq k hk
      obtain ⟨⟨_, _, _, _, ⟨h2, _⟩, _⟩, _⟩ := hq 0 (by omega)
      obtain ⟨bl, off, spot⟩ := ad
      have hspot : spot = none := by simpa [Addr.add] using World.cell?_spot h2
      subst hspot
      rw [Go.WideShapes.add_plain] at h0 h1
      exact ⟨bl, off, va, vc, aa, ac, rfl, ⟨h0, by rw [Nat.add_assoc]; exact h1⟩, r⟩
    · rw [hx] at hw
      have h3 := weigh Try.underlying26 hw
      rw [bytesCells] at h3
      exact ⟨h3.1, fun i hi => (hq i hi).2 (h3.2 i hi)⟩
end
end Go.Proofs.Ytalnfnkpemojhaa.EOpen
