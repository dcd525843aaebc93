/-
  ROWS OF LISTS THAT THE DOCUMENT's ANSWER GATHERS BY append: what stands behind them, and what leaves them be.
  Conditions: each lemma's own.
-/
import Derived.Test.YtalnfnkpemojhaaEFresh
import Derived.OwnWalk
import Derived.Laws.OwnMore
namespace Go.Proofs.Ytalnfnkpemojhaa.EOwnRows
open Go.RowKit ECells ECopied ERows EOpen ECopy EFresh Trees NSense NUnits

/-- a list of zeros, whole in memory of its own -/
def ZBlock (w : World) (B n : Nat) (v : Value) : Prop := ∃ b V, v = .slice (some ⟨b, 0, none⟩) n n ∧ B ≤ b ∧ w.heap[b]? = some (.cells V 3) ∧ ∀ i, i < n → V[i]? = some (.int .i64 0)

/-- what holds cells of another type is as it was -/
def Same (t : TypeId) (w w' : World) : Prop := ∀ (b : Nat) (cs : Array Value) (t' : TypeId) (fr : Nat × Nat), w.heap[b]? = some (.cells cs t' fr) → t' ≠ t → w'.heap[b]? = some (.cells cs t' fr)

theorem Same_below {t : TypeId} {w w' : World} (hb : Below w.heap.size w w') : Same t w w' := fun b _ _ _ h _ => (hb.block b (Array.getElem?_eq_some_iff.1 h).1).trans h

theorem Same_grown {w w' : World} {base e size n : Nat} {v : Value} {xs : List Value} (ho : w.ownsRow base e size v n xs) (hg : w.grownBy w' v.ownBlock) : Same e w w' := by
  intro b cs t' fr hb ht
  have hlt := (Array.getElem?_eq_some_iff.1 hb).1
  rw [hg.block b hlt ?_]
  · exact hb
  intro he
  rcases ho.2 with ⟨rfl, _⟩ | ⟨g, cap, cur, rfl, _, hcur, _⟩
  · simp [Value.ownBlock] at he
  · have : b = g := by simpa [Value.ownBlock] using he
    subst this
    rw [hcur] at hb
    injection hb with h
    injection h with h1 h2
    exact ht h2.symm

theorem owns_apart {w w' : World} {base e size n : Nat} {v : Value} {xs : List Value} (h : w.ownsRow base e size v n xs) (hs : ∀ g cur, base ≤ g → w.heap[g]? = some (.cells cur e (0, 0)) → w'.heap[g]? = some (.cells cur e (0, 0))) : w'.ownsRow base e size v n xs :=
  ⟨h.1, h.2.elim .inl fun ⟨g, cap, cur, h1, h2, h3, h4⟩ => .inr ⟨g, cap, cur, h1, h2, hs g cur h2 h3, h4⟩⟩

theorem ZBlock_same {w w' : World} {B n : Nat} {v : Value} {t : TypeId} (hs : Same t w w') (ht : (3 : TypeId) ≠ t) (h : ZBlock w B n v) : ZBlock w' B n v := by
  obtain ⟨b, V, e, hb, hg, hV⟩ := h
  exact ⟨b, V, e, hb, hs _ _ _ _ hg ht, hV⟩
theorem ZBlock_apart {w w' : World} {B n : Nat} {v : Value} (hc : ∀ b, B ≤ b → w'.heap[b]? = w.heap[b]?) (h : ZBlock w B n v) : ZBlock w' B n v := by
  obtain ⟨b, V, e, hb, hg, hV⟩ := h
  exact ⟨b, V, e, hb, (hc b hb).trans hg, hV⟩
theorem ZBlock_mono {w : World} {B B' n : Nat} {v : Value} (hB : B' ≤ B) (h : ZBlock w B n v) : ZBlock w B' n v := by
  obtain ⟨b, V, e, hb, hg, hV⟩ := h
  exact ⟨b, V, e, Nat.le_trans hB hb, hg, hV⟩

/-- a row of lists of zeros, of one's own -/
def ARows (w : World) (B : Nat) (v : Value) (n : Nat) (R : Nat → Nat) : Prop := ∃ xs, w.ownsRow B 54 1 v n xs ∧ ∀ j, j < n → ∃ u, xs[j]? = some u ∧ ZBlock w B (R j) u

theorem ARows_nil (w : World) (B : Nat) (R : Nat → Nat) : ARows w B (.slice none 0 0) 0 R := ⟨[], World.ownsRow_nil _ _ _ _, fun j hj => absurd hj (by omega)⟩
theorem ARows_same {w w' : World} {B n : Nat} {v : Value} {R : Nat → Nat} {t : TypeId} (hs : Same t w w') (ht : (3 : TypeId) ≠ t) (ht' : (54 : TypeId) ≠ t) (h : ARows w B v n R) : ARows w' B v n R := by
  obtain ⟨xs, ho, hz⟩ := h
  exact ⟨xs, owns_apart ho fun g cur _ hg => hs _ _ _ _ hg ht', fun j hj => (hz j hj).elim fun u hu => ⟨u, ⟨hu.1, ZBlock_same hs ht hu.2⟩⟩⟩
theorem ARows_apart {w w' : World} {B n : Nat} {v : Value} {R : Nat → Nat} (hc : ∀ b, B ≤ b → w'.heap[b]? = w.heap[b]?) (h : ARows w B v n R) : ARows w' B v n R := by
  obtain ⟨xs, ho, hz⟩ := h
  exact ⟨xs, owns_apart ho fun g cur hB hg => (hc g hB).trans hg, fun j hj => (hz j hj).elim fun u hu => ⟨u, ⟨hu.1, ZBlock_apart hc hu.2⟩⟩⟩
theorem ARows_mono {w : World} {B B' n : Nat} {v : Value} {R : Nat → Nat} (hB : B' ≤ B) (h : ARows w B v n R) : ARows w B' v n R := by
  obtain ⟨xs, ho, hz⟩ := h
  exact ⟨xs, ⟨ho.1, ho.2.elim .inl fun ⟨g, cap, cur, h1, h2, h3⟩ => .inr ⟨g, cap, cur, h1, Nat.le_trans hB h2, h3⟩⟩, fun j hj => (hz j hj).elim fun u hu => ⟨u, ⟨hu.1, ZBlock_mono hB hu.2⟩⟩⟩

/-- one more is put behind -/
theorem ARows_next {w w1 : World} {B n : Nat} {v v' u : Value} {R : Nat → Nat} {xs : List Value} (ho : w.ownsRow B 54 1 v n xs) (hg : w.grownBy w1 v.ownBlock) (ho' : w1.ownsRow B 54 1 v' (n + 1) (xs ++ [u]))
    (hz : ∀ j, j < n → ∃ u, xs[j]? = some u ∧ ZBlock w B (R j) u) (hu : ZBlock w B (R n) u) : ARows w1 B v' (n + 1) R := by
  have hs := Same_grown ho hg
  have hl : xs.length = n := by have := ho.1; omega
  refine ⟨_, ho', fun j hj => ?_⟩
  rcases Nat.lt_or_ge j n with h | h
  · obtain ⟨u', e, hz'⟩ := hz j h
    exact ⟨u', by rw [List.getElem?_append_left (by omega)]; exact e, ZBlock_same hs (by decide) hz'⟩
  · obtain rfl : j = n := by omega
    exact ⟨u, by rw [List.getElem?_append_right (by omega), hl]; simp, ZBlock_same hs (by decide) hu⟩

/-- so many units' cells are gathered -/
def CRows (w : World) (B : Nat) (v : Value) (n : Nat) (U : Nat → UnitD) : Prop := ∃ ys, w.ownsRow B 57 2 v n ys ∧ ∀ i, i < n → ∃ u0 u1, (ys[i * 2]? = some u0 ∧ ys[i * 2 + 1]? = some u1) ∧ ZBlock w B (U i).vl u0 ∧ ARows w B u1 (U i).al fun j => ((U i).az j).toNat

theorem CRows_nil (w : World) (B : Nat) (U : Nat → UnitD) : CRows w B (.slice none 0 0) 0 U := ⟨[], World.ownsRow_nil _ _ _ _, fun j hj => absurd hj (by omega)⟩
theorem CRows_below {w w' : World} {B n : Nat} {v : Value} {U : Nat → UnitD} (hb : Below w.heap.size w w') (h : CRows w B v n U) : CRows w' B v n U := by
  obtain ⟨ys, ho, hz⟩ := h
  have hs : Same 0 w w' := Same_below hb
  refine ⟨ys, owns_apart ho fun g cur _ hg => hs _ _ _ _ hg (by decide), fun i hi => ?_⟩
  obtain ⟨u0, u1, e, z, a⟩ := hz i hi
  exact ⟨u0, u1, e, ZBlock_same hs (by decide) z, ARows_same hs (by decide) (by decide) a⟩
theorem CRows_next {w w1 : World} {B n : Nat} {v v' u0 u1 : Value} {U : Nat → UnitD} {ys : List Value} (ho : w.ownsRow B 57 2 v n ys) (hg : w.grownBy w1 v.ownBlock) (ho' : w1.ownsRow B 57 2 v' (n + 1) (ys ++ [u0, u1]))
    (hz : ∀ i, i < n → ∃ u0 u1, (ys[i * 2]? = some u0 ∧ ys[i * 2 + 1]? = some u1) ∧ ZBlock w B (U i).vl u0 ∧ ARows w B u1 (U i).al fun j => ((U i).az j).toNat) (h0 : ZBlock w B (U n).vl u0) (h1 : ARows w B u1 (U n).al fun j => ((U n).az j).toNat) : CRows w1 B v' (n + 1) U := by
  have hs := Same_grown ho hg
  have hl : ys.length = n * 2 := ho.1
  refine ⟨_, ho', fun i hi => ?_⟩
  rcases Nat.lt_or_ge i n with h | h
  · obtain ⟨a0, a1, ⟨e0, e1⟩, z, a⟩ := hz i h
    exact ⟨a0, a1, ⟨by rw [List.getElem?_append_left (by omega)]; exact e0, by rw [List.getElem?_append_left (by omega)]; exact e1⟩, ZBlock_same hs (by decide) z, ARows_same hs (by decide) (by decide) a⟩
  · obtain rfl : i = n := by omega
    refine ⟨u0, u1, ⟨?_, ?_⟩, ZBlock_same hs (by decide) h0, ARows_same hs (by decide) (by decide) h1⟩
    · rw [List.getElem?_append_right (by omega), hl]; simp
    · rw [List.getElem?_append_right (by omega), hl, show i * 2 + 1 - i * 2 = 1 by omega]; rfl

theorem ZBlock_nums {w : World} {B n : Nat} {v : Value} (h : ZBlock w B n v) : ∃ r, v = .slice r n n ∧ Nums w r n fun _ => 0 := by
  obtain ⟨b, V, rfl, _, hg, hV⟩ := h
  exact ⟨_, rfl, fun i hi => ⟨b, 0, rfl, by rw [Nat.zero_add]; simp [World.cell?, hg, hV i hi]⟩⟩

theorem owns_cells {w : World} {base e size n : Nat} {v : Value} {xs : List Value} (h : w.ownsRow base e size v n xs) : ∃ ao cap, v = .slice ao n cap ∧ ∀ j, j < n * size → ∃ g, ao = some ⟨g, 0, none⟩ ∧ w.cell? ⟨g, j, none⟩ = xs[j]? := by
  rcases h.2 with ⟨rfl, rfl⟩ | ⟨g, cap, cur, rfl, _⟩
  · exact ⟨none, 0, rfl, fun j hj => absurd hj (by omega)⟩
  · exact ⟨_, cap, rfl, fun j hj => ⟨g, rfl, h.cellAt j hj⟩⟩

theorem ARows_rows {w : World} {B n : Nat} {v : Value} {R : Nat → Nat} (h : ARows w B v n R) (hR : ∀ j, j < n → R j ≤ maxLen) : ∃ ao cap, v = .slice ao n cap ∧ IRow w ao n R fun _ _ => 0 := by
  obtain ⟨xs, ho, hz⟩ := h
  obtain ⟨ao, cap, e, hc⟩ := owns_cells ho
  refine ⟨ao, cap, e, fun j hj => ?_⟩
  obtain ⟨g, ea, hg⟩ := hc j (by omega)
  obtain ⟨u, eu, hu⟩ := hz j hj
  obtain ⟨r, er, hn⟩ := ZBlock_nums hu
  exact ⟨g, 0, r, R j, ea, by rw [Nat.zero_add, hg, eu, er], hR j hj, hn⟩

theorem CRows_row {w : World} {B n : Nat} {v : Value} {U : Nat → UnitD} (h : CRows w B v n U) (hs : ∀ i, i < n → (U i).vl ≤ 8 ∧ (U i).al ≤ 3 ∧ ∀ j, j < (U i).al → 1 ≤ (U i).az j ∧ (U i).az j ≤ 10) : ∃ ao cap, v = .slice ao n cap ∧ CRow w ao n (freshC U) := by
  obtain ⟨ys, ho, hz⟩ := h
  obtain ⟨ao, cap, e, hc⟩ := owns_cells ho
  refine ⟨ao, cap, e, fun i hi => ?_⟩
  obtain ⟨u0, u1, ⟨e0, e1⟩, z, a⟩ := hz i hi
  obtain ⟨h1, h2, h3⟩ := hs i hi
  obtain ⟨g, ea, g0⟩ := hc (i * 2) (by omega)
  obtain ⟨g', ea', g1⟩ := hc (i * 2 + 1) (by omega)
  obtain rfl : g = g' := by rw [ea] at ea'; injection ea' with h; injection h
  obtain ⟨r, er, hn⟩ := ZBlock_nums z
  obtain ⟨q, c, eq, hi'⟩ := ARows_rows a fun j hj => by have := h3 j hj; show ((U i).az j).toNat ≤ maxLen; unfold maxLen; omega
  exact ⟨g, 0, r, (U i).vl, q, c, ea, ⟨by rw [Nat.zero_add, g0, e0, er]; rfl, by rw [Nat.zero_add, g1, e1, eq]; rfl⟩, ⟨by show (U i).vl ≤ maxLen; unfold maxLen; omega, by show (U i).al ≤ maxLen; unfold maxLen; omega⟩, hn, hi'⟩
end Go.Proofs.Ytalnfnkpemojhaa.EOwnRows
