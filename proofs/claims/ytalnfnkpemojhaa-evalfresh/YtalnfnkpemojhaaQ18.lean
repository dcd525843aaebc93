/-
  ROWS OF NAMES THAT THE DOCUMENT's ANSWER GATHERS: what stands there twice; a list of names that was handed in, copied.
  Conditions: the row is one's own, or the names lie there.
  THE DOCUMENT's ANSWER TO A UNIT's NAMES: the rounds of ProgramFault's second loop, typed as what is known behind them.
  Conditions: none.
  THE DOCUMENT's exprSense: what its walks have in common.
  Conditions: none.
-/
import Derived.Test.YtalnfnkpemojhaaQ17
import Derived.OwnWalk
import Derived.Laws.OwnMore
import Derived.Test.YtalnfnkpemojhaaQ2
import Derived.Test.YtalnfnkpemojhaaQ3
import Derived.Test.YtalnfnkpemojhaaQ5
import Derived.Deep.RegionLaw
namespace Go.Proofs.Ytalnfnkpemojhaa.NRefRow
open Go.RowKit NPlace NPlain NUnits NLists

theorem infoStr : (Try.prog.info? 9).map (fun i => (i.zero, i.size, i.bytes)) = some (some (.string ⟨#[]⟩), 1, 16) := by kernel_rfl

/-- the first n names, as cells -/
def names (z : Nat → ByteArray) (n : Nat) : List Value := (List.range n).map fun i => .string (z i)
theorem names_length (z : Nat → ByteArray) (n : Nat) : (names z n).length = n := by simp [names]
theorem names_at (z : Nat → ByteArray) (n i : Nat) (hi : i < n) : (names z n)[i]? = some (.string (z i)) := by simp [names, hi]
theorem names_one (z : Nat → ByteArray) (n : Nat) : ∀ u ∈ names z n, u.oneCell' = true := by
  intro u hu
  simp only [names, List.mem_map] at hu
  obtain ⟨i, _, rfl⟩ := hu
  rfl
theorem names_next (z : Nat → ByteArray) (n : Nat) : names z (n + 1) = names z n ++ [.string (z n)] := by simp [names, List.range_succ]
theorem names_congr {z y : Nat → ByteArray} {n : Nat} (h : ∀ i, i < n → z i = y i) : names z n = names y n := by
  apply List.map_congr_left
  intro i hi
  rw [h i (List.mem_range.1 hi)]

/-- a row of names of one's own -/
structure TRow (w : World) (B : Nat) (v : Value) (n : Nat) (z : Nat → ByteArray) : Prop where
  out : w.ownsRow B 9 1 v n (names z n)

theorem TRow.below {w w' : World} {B n : Nat} {v : Value} {z : Nat → ByteArray} (h : TRow w B v n z) (hb : Below w.heap.size w w') : TRow w' B v n z := by
  refine ⟨h.out.1, ?_⟩
  rcases h.out.2 with hn | ⟨g, cap, cur, rfl, hB, hg, rest⟩
  · exact .inl hn
  · exact .inr ⟨g, cap, cur, rfl, hB, (hb.block g (Array.getElem?_eq_some_iff.1 hg).1).trans hg, rest⟩
theorem TRow.nil (w : World) (B : Nat) (z : Nat → ByteArray) : TRow w B (.slice none 0 0) 0 z := ⟨World.ownsRow_nil _ _ _ _⟩
theorem TRow.congr {w : World} {B n : Nat} {v : Value} {z y : Nat → ByteArray} (h : TRow w B v n z) (e : ∀ i, i < n → z i = y i) : TRow w B v n y := ⟨by rw [← names_congr e]; exact h.out⟩
theorem TRow.base {w : World} {B n g : Nat} {v : Value} {z : Nat → ByteArray} (h : TRow w B v n z) (hg : v.ownBlock = some g) : B ≤ g := (h.out.lt g hg).1
theorem TRow.next {w : World} {B n : Nat} {v : Value} {z : Nat → ByteArray} (h : w.ownsRow B 9 1 v (n + 1) (names z n ++ [.string (z n)])) : TRow w B v (n + 1) z := ⟨by rw [names_next]; exact h⟩

theorem doubledRow (w : World) (B : Nat) (v : Value) (n : Nat) (z : Nat → ByteArray) (hn : n ≤ maxLen) (h : TRow w B v n z) :
    Calls Try.prog 22 #[v] w fun e w' => e = .returned (.bool (twiceB z n)) ∧ Below w.heap.size w w' := by
  rw [twice_eq]
  rcases h.out.2 with ⟨rfl, rfl⟩ | ⟨g, cap, cur, rfl, hB, hg, hc, hm, _⟩
  · exact NFind.doubled w 0 0 none z hn (Nat.le_refl _) (Nat.zero_le _) (fun i hi => absurd hi (by omega))
  · exact NFind.doubled w n cap (some ⟨g, 0, none⟩) z hn hc hm (fun i hi => ⟨g, 0, rfl, by rw [Nat.zero_add]; exact (h.out.cellAt i (by omega)).trans (names_at z n i hi)⟩)

theorem one_news {w : World} {v0 : Value} {t : TypeId} : ∀ (j : Nat) (u : Value), [v0][j]? = some u → (w.alloc (.cells #[v0] t)).cell? ((⟨w.heap.size, 0, none⟩ : Addr).add j) = some u := by
  intro j u hj
  match j, hj with
  | 0, hj =>
    simp at hj
    subst hj
    simp [Addr.add]

theorem one_one {b : ByteArray} : ∀ u ∈ [Value.string b], u.oneCell' = true := by
  intro u hu
  simp at hu
  subst hu
  rfl

theorem append_none (w : World) (ty : TypeId) (i : TypeInfo) (hi : Try.prog.info? 9 = some i) (dcap : Nat) : (Builtin.append_ #[34, 34] ty #[.slice none 0 0, .slice none 0 dcap]).run Try.prog w = .ok (.slice none 0 0) w := by
  simp [Builtin.append_, Builtin.lenOf, Builtin.firstCells, run_underlying Try.underlying34, sizeOf, typeInfo, hi]

theorem wpList_copied {ops : Array Oper} {rest : List Oper} {o : Oper} {a : Act} {w : World} {Q : Exit → Act → World → Prop}
    (hg : o.guard = none) (s x : Operand) (hop : o.op = Op.call { callee := Callee.builtin Builtin.append, args := #[s, x], argTypes := #[34, 34] }) (hs : a.eval s = .slice none 0 0)
    (da : Option Addr) (dlen dcap : Nat) (z : Nat → ByteArray) (hx : a.eval x = .slice da dlen dcap) (hd : Texts w da dlen z) (hmx : dlen ≤ 8) (base : Nat) (hbase : base ≤ w.heap.size)
    (h : ∀ v' w', TRow w' base v' dlen z → w.grownBy w' none → wpList Try.prog ops Q rest (a.put o.dst v') w') :
    wpList Try.prog ops Q (o :: rest) a w := by
  obtain ⟨i0, hi, hz0, hz1, hz2⟩ := info_parts infoStr
  cases da with
  | none =>
    obtain rfl : dlen = 0 := by
      rcases Nat.eq_zero_or_pos dlen with h0 | h0
      · exact h0
      · obtain ⟨_, _, e, _⟩ := hd 0 h0
        cases e
    refine wpList_plain hg fun K hK => ?_
    have hrun := append_none w o.type i0 hi dcap
    unfold Oper.wp
    simp [execOp, hop, resolve, invoke, builtin, hs, hx, hrun, Result.andThen]
    exact hK _ _ (h _ _ (TRow.nil _ _ _) (World.grownBy.refl _ _))
  | some ad =>
    refine wpList_append_own w hg s x 34 hop base 9 i0 (.string ⟨#[]⟩) 1 16 Try.underlying34 hi hz0 hz1 hz2 rfl (by decide) (.slice none 0 0) 0 [] hs (World.ownsRow_nil _ _ _ _) ad dlen dcap (names z dlen) hx (by rw [names_length]; omega) ?_ (names_one z dlen) (by unfold maxLen; omega) (by omega) hbase fun v' w' h2 h3 _ => h v' w' ⟨by simpa using h2⟩ h3
    intro j u hu
    have hj : j < dlen := by
      have := (List.getElem?_eq_some_iff.1 hu).1
      rwa [names_length] at this
    obtain ⟨bl, off, e, hc⟩ := hd j hj
    obtain rfl := Option.some.inj e
    rw [names_at z dlen j hj] at hu
    rw [Go.WideShapes.add_plain, hc]
    exact hu
end Go.Proofs.Ytalnfnkpemojhaa.NRefRow

namespace Go.Proofs.Ytalnfnkpemojhaa.NRefUnit
open NPlain NSense Trees

theorem both_lo {n : Nat} {z y : Nat → ByteArray} {i : Nat} (h : i < n) : z i = both n z y i := (if_pos h).symm
theorem both_hi (n : Nat) (z y : Nat → ByteArray) (i : Nat) : both n z y (n + i) = y i := by
  rw [both, if_neg (by omega)]
  congr 1
  omega
end Go.Proofs.Ytalnfnkpemojhaa.NRefUnit

namespace Go.Proofs.Ytalnfnkpemojhaa.NRefBase
open Go.RowKit NPlace NPlain NUnits NLists NFind Go.Proofs.Ytalnfnkpemojhaa.Ident Trees Forms NSense NScope NAsk

theorem three {w W : World} {t t' t'' : TypeId} {u0 u1 u2 u3 v0 v1 v2 v3 y0 y1 y2 y3 y4 : Value} (hb : Below (((w.alloc (.cells #[u0, u1, u2, u3] t)).alloc (.cells #[v0, v1, v2, v3] t')).alloc (.cells #[y0, y1, y2, y3, y4] t'')).heap.size (((w.alloc (.cells #[u0, u1, u2, u3] t)).alloc (.cells #[v0, v1, v2, v3] t')).alloc (.cells #[y0, y1, y2, y3, y4] t'')) W) :
    (W.cell? ⟨w.heap.size, 0, none⟩ = some u0 ∧ W.cell? ⟨w.heap.size, 1, none⟩ = some u1 ∧ W.cell? ⟨w.heap.size, 2, none⟩ = some u2 ∧ W.cell? ⟨w.heap.size, 3, none⟩ = some u3) ∧ (W.cell? ⟨w.heap.size + 1, 0, none⟩ = some v0 ∧ W.cell? ⟨w.heap.size + 1, 1, none⟩ = some v1 ∧ W.cell? ⟨w.heap.size + 1, 2, none⟩ = some v2 ∧ W.cell? ⟨w.heap.size + 1, 3, none⟩ = some v3) ∧
      (W.cell? ⟨w.heap.size + 2, 0, none⟩ = some y0 ∧ W.cell? ⟨w.heap.size + 2, 1, none⟩ = some y1 ∧ W.cell? ⟨w.heap.size + 2, 2, none⟩ = some y2 ∧ W.cell? ⟨w.heap.size + 2, 3, none⟩ = some y3 ∧ W.cell? ⟨w.heap.size + 2, 4, none⟩ = some y4) := by
  have keep : ∀ (b i : Nat) (v : Value), b < w.heap.size + 3 → (((w.alloc (.cells #[u0, u1, u2, u3] t)).alloc (.cells #[v0, v1, v2, v3] t')).alloc (.cells #[y0, y1, y2, y3, y4] t'')).cell? ⟨b, i, none⟩ = some v → W.cell? ⟨b, i, none⟩ = some v := fun b i v h hv => (hb.cell (p := ⟨b, i, none⟩) (by simp; omega)).trans hv
  have a : ∀ (i : Nat) (v : Value), (w.alloc (.cells #[u0, u1, u2, u3] t)).cell? ⟨w.heap.size, i, none⟩ = some v → W.cell? ⟨w.heap.size, i, none⟩ = some v := fun i v h => keep _ _ _ (by omega) (past (past h _) _)
  have b : ∀ (i : Nat) (v : Value), ((w.alloc (.cells #[u0, u1, u2, u3] t)).alloc (.cells #[v0, v1, v2, v3] t')).cell? ⟨w.heap.size + 1, i, none⟩ = some v → W.cell? ⟨w.heap.size + 1, i, none⟩ = some v := fun i v h => keep _ _ _ (by omega) (past h _)
  have e : ((w.alloc (.cells #[u0, u1, u2, u3] t)).alloc (.cells #[v0, v1, v2, v3] t')).heap.size = w.heap.size + 2 := by simp
  have hY : (((w.alloc (.cells #[u0, u1, u2, u3] t)).alloc (.cells #[v0, v1, v2, v3] t')).alloc (.cells #[y0, y1, y2, y3, y4] t'')).heap[w.heap.size + 2]? = some (.cells #[y0, y1, y2, y3, y4] t'') := by rw [← e]; exact heap_alloc_new _ _
  refine ⟨⟨a 0 _ ?_, a 1 _ ?_, a 2 _ ?_, a 3 _ ?_⟩, ⟨b 0 _ ?_, b 1 _ ?_, b 2 _ ?_, b 3 _ ?_⟩, ⟨keep _ _ _ (by omega) (cell_of_heap hY rfl), keep _ _ _ (by omega) (cell_of_heap hY rfl), keep _ _ _ (by omega) (cell_of_heap hY rfl), keep _ _ _ (by omega) (cell_of_heap hY rfl), keep _ _ _ (by omega) (cell_of_heap hY rfl)⟩⟩
  all_goals simp
end Go.Proofs.Ytalnfnkpemojhaa.NRefBase
