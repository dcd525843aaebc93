/-
  WHAT barbicankeep.Expr GIVES, SAID: an expression of which nothing is refused, in new memory; how its cells are told.
  Conditions: each lemma's own.
-/
import Derived.Test.YtgjemlhnlpglbaaDoorR5
import Derived.OwnWalk
import Derived.Laws.OwnMore
import Derived.Lib.Builder
namespace Go.Proofs.YtgjemlhnlpglbaaDoor.PExprBase
open Go.RowKit PPlain PRaw PNumber Trees
open Go.Proofs.YtgjemlhnlpglbaaDoor.Bytes (cell_of_heap)

/-- the blocks from a to b are as they were -/
def Agree (a b : Nat) (w W : World) : Prop := ∀ i, a ≤ i → i < b → W.heap[i]? = w.heap[i]?

/-- an expression lies in what was laid from block a on, whatever is turned elsewhere -/
def ESafe (a : Nat) (w' : World) (d : Nat) (T : ETree) : Prop := ∀ W, Agree a w'.heap.size w' W → ELies W d T

/-- what comes out: an expression of which nothing is refused -/
def EOut (w : World) (many pl d : Nat) (e : Ending) (w' : World) : Prop :=
  Below w.heap.size w w' ∧ ∃ (x : ENode) (T : ETree), e = .returned (.agg #[.int .i64 x.kind, .int .i64 x.n, .string x.of, .string x.s, .slice x.ao x.len x.cap]) ∧ T [] = x ∧ okE many pl d T ∧ ESafe w.heap.size w' d T

/-- an expression out of a node and its Args -/
def node (x : ENode) (C : Nat → ETree) : ETree
  | [] => x
  | i :: p => C i p

theorem sub_node (x : ENode) (C : Nat → ETree) (i : Nat) : sub (node x C) i = C i := rfl

theorem node_size {many pl : Nat} {x : ENode} (h : nodeOk many pl x) : x.of.size ≤ maxLen ∧ x.s.size ≤ maxLen ∧ x.len ≤ maxLen := by
  have hu : ∀ i, (nu i).size ≤ maxLen := fun i => by
    unfold nu maxLen
    split
    · decide
    · split <;> decide
  have hv : ∀ {s}, varOk pl s → s.size ≤ maxLen := fun h => by
    rcases h with h | h | ⟨j, _, h⟩
    · rw [h]; unfold maxLen; decide
    · rw [h]; unfold maxLen; decide
    · rw [h]; unfold pp; split <;> (unfold maxLen; decide)
  have h0 : ByteArray.empty.size ≤ maxLen := by unfold maxLen; decide
  rcases h with ⟨_, _, _, ho, hs, hl⟩ | ⟨_, _, ho, hs, hl⟩ | ⟨_, _, ho, hs, hl⟩ | ⟨_, _, h⟩ | ⟨_, _, _, ho, hs, hl⟩
  · rw [ho, hs, hl]; exact ⟨h0, h0, Nat.zero_le _⟩
  · rw [ho, hl]; exact ⟨h0, hv hs, Nat.zero_le _⟩
  · rw [ho, hs, hl]; exact ⟨h0, by unfold maxLen; decide, by unfold maxLen; decide⟩
  · rcases h with ⟨ho, hs, hl⟩ | ⟨i, _, ho, ⟨hs, hl⟩ | ⟨hs, hl⟩⟩
    · rw [ho, hs, hl]; exact ⟨h0, by unfold maxLen; decide, by unfold maxLen; decide⟩
    · rw [ho, hs, hl]; exact ⟨hu i, by unfold maxLen; decide, by unfold maxLen; decide⟩
    · rw [ho, hs, hl]; exact ⟨hu i, by unfold maxLen; decide, Nat.zero_le _⟩
  · rw [ho, hs, hl]; exact ⟨h0, h0, by unfold maxLen; decide⟩

theorem okE_size {many pl d : Nat} {T : ETree} (h : okE many pl d T) : (T []).of.size ≤ maxLen ∧ (T []).s.size ≤ maxLen ∧ (T []).len ≤ maxLen := by
  cases d with
  | zero => exact absurd h (by simp [okE])
  | succ d => exact node_size h.1

/-- without Args -/
theorem out0 {w F : World} {many pl d : Nat} (hF : Below w.heap.size w F) {x : ENode} (hl : x.len = 0) (hx : nodeOk many pl x) :
    EOut w many pl (d + 1) (.returned (.agg #[.int .i64 x.kind, .int .i64 x.n, .string x.of, .string x.s, .slice x.ao x.len x.cap])) F :=
  ⟨hF, x, node x fun _ _ => x, rfl, rfl, ⟨hx, fun i (hi : i < x.len) => absurd hi (by omega)⟩, fun _ _ i (hi : i < x.len) => absurd hi (by omega)⟩

/-- the cells of an expression -/
def five (x : ENode) : List Value := [.int .i64 x.kind, .int .i64 x.n, .string x.of, .string x.s, .slice x.ao x.len x.cap]

/-- so many expressions lie in a block, whole -/
theorem row_of {w F : World} {many pl d n B : Nat} {cs : Array Value} {t : TypeId} {fr : Nat × Nat} {C : Nat → ETree} (hB : w.heap.size ≤ B) (hB2 : B < F.heap.size) (hF : F.heap[B]? = some (.cells cs t fr))
    (hc : ∀ i, i < n → ∀ j, j < 5 → cs[i * 5 + j]? = (five (C i []))[j]?) (hok : ∀ i, i < n → okE many pl d (C i)) (hs : ∀ i, i < n → ∀ W, Agree w.heap.size F.heap.size F W → ELies W d (C i)) :
    ∀ W, Agree w.heap.size F.heap.size F W → ERow W (some ⟨B, 0, none⟩) n C d := by
  intro W hW i hi
  have hg : W.heap[B]? = some (.cells cs t fr) := (hW B hB hB2).trans hF
  have cell : ∀ j, j < 5 → W.cell? ⟨B, 0 + i * 5 + j, none⟩ = (five (C i []))[j]? := fun j hj => by
    rw [← hc i hi j hj]; simp [World.cell?, hg]
  exact ⟨⟨B, 0, rfl, cell 0 (by decide), cell 1 (by decide), cell 2 (by decide), cell 3 (by decide), cell 4 (by decide)⟩, okE_size (hok i hi), hs i hi W hW⟩

theorem out_node {w F : World} {many pl d n B : Nat} (hF : Below w.heap.size w F) {x : ENode} (hl : x.len = n) (ha : x.ao = some ⟨B, 0, none⟩) (hx : nodeOk many pl x) {C : Nat → ETree} (hok : ∀ i, i < n → okE many pl d (C i))
    (hr : ∀ W, Agree w.heap.size F.heap.size F W → ERow W (some ⟨B, 0, none⟩) n C d) :
    EOut w many pl (d + 1) (.returned (.agg #[.int .i64 x.kind, .int .i64 x.n, .string x.of, .string x.s, .slice x.ao x.len x.cap])) F :=
  ⟨hF, x, node x C, rfl, rfl, ⟨hx, fun i (hi : i < x.len) => hok i (by omega)⟩, fun W hW => ELies_succ.2 (by show ERow W x.ao x.len _ d; rw [hl, ha]; exact hr W hW)⟩

/-- one, two -/
def one1 (A : ETree) : Nat → ETree := fun _ => A
def two2 (A B : ETree) : Nat → ETree := fun i => if i = 0 then A else B

theorem Agree.sub {a b a' b' : Nat} {w w' W : World} (h : Agree a b w W) (ha : a ≤ a') (hb : b' ≤ b) (hw : ∀ i, a' ≤ i → i < b' → w.heap[i]? = w'.heap[i]?) : Agree a' b' w' W := fun i h1 h2 => (h i (by omega) (by omega)).trans (hw i h1 h2)

/-- the params lie there -/
def PPar (w : World) (pa : Option Addr) (pl : Nat) : Prop := ∀ j, j < pl → ∃ bl off, pa = some ⟨bl, off, none⟩ ∧ w.cell? ⟨bl, off + j, none⟩ = some (.string (pp j))
theorem PPar_below {w w' : World} (hb : Below w.heap.size w w') {pa : Option Addr} {pl : Nat} (h : PPar w pa pl) : PPar w' pa pl := fun j hj => by
  obtain ⟨bl, off, e, t⟩ := h j hj
  exact ⟨bl, off, e, (hb.cell (World.block_lt_of_cell? w _ t)).trans t⟩

/-- the units' names lie there -/
def Names (w : World) : Prop := ∀ i, i < 3 → w.cell? ⟨0, i, none⟩ = some (.string (nu i))
theorem Names_below {w w' : World} (hb : Below w.heap.size w w') (h : Names w) : Names w' := fun i hi => (hb.cell (p := ⟨0, i, none⟩) (World.block_lt_of_cell? w _ (h i hi))).trans (h i hi)

/-- raw things that lie there -/
def Raws (w : World) (la : Option Addr) (ln lc : Nat) : Prop := ln ≤ lc ∧ ln ≤ 140737488355328 ∧ ∃ R, RRow w la ln R
theorem Raws_below {w w' : World} (hb : Below w.heap.size w w') {la : Option Addr} {ln lc : Nat} (h : Raws w la ln lc) : Raws w' la ln lc := ⟨h.1, h.2.1, h.2.2.elim fun R hR => ⟨R, RRow_below hb hR⟩⟩
theorem Raws_part {w : World} {la : Option Addr} {ln lc : Nat} (h : Raws w la ln lc) (k m : Nat) (hm : k + m ≤ ln) : Raws w (from_ la lc k) m (lc - k) := ⟨by have := h.1; omega, by have := h.2.1; omega, h.2.2.elim fun R hR => ⟨_, RRow_part hR h.1 k m hm⟩⟩

/-- the contract, with so many depths left -/
def EC (d many : Nat) : Prop := ∀ (dep : Int) (w : World) (la pa : Option Addr) (ln lc pl pc : Nat), 1 ≤ dep → dep ≤ 5 → 6 ≤ dep + d → Raws w la ln lc → PPar w pa pl → pl ≤ 2 → Names w →
  Calls Tryd.prog 32 #[.slice la ln lc, .slice pa pl pc, .int .i64 many, .int .i64 dep] w fun e w' => EOut w many pl d e w'

/-- behind the last Arg: the Args are laid, and the answer -/
structure Fin (w Wn F : World) (cs rc : Array Value) : Prop where
  below : Below w.heap.size w F
  size : F.heap.size = Wn.heap.size + 1
  args : F.heap[Wn.heap.size]? = some (.cells cs 29)
  old : ∀ i, i < Wn.heap.size → i ≠ w.heap.size → F.heap[i]? = Wn.heap[i]?
  res : F.heap[w.heap.size]? = some (.cells rc 29)
  lt : w.heap.size + 2 ≤ Wn.heap.size

theorem fin {w Wn : World} {o1 : Array Value} {o2 : Obj} (h : Below (w.heap.size + 2) ((w.alloc (.cells o1 29)).alloc o2) Wn) (cs rc : Array Value) : Fin w Wn ((Wn.alloc (.cells cs 29)).setRow w.heap.size rc) cs rc := by
  have hz : w.heap.size + 2 ≤ Wn.heap.size := by have := h.size; simp at this; omega
  have hr : (Wn.alloc (.cells cs 29)).heap[w.heap.size]? = some (.cells o1 29) := by
    rw [Below.heap_alloc Wn _ _ (by omega), h.block w.heap.size (by omega)]
    exact got_old _ _ (got1 w _)
  refine ⟨?_, by simp [World.setRow], ?_, ?_, setRow_heap _ _ _ _ _ _ hr, hz⟩
  · have h1 : Below w.heap.size w Wn := (below_aa w _ _).trans (h.mono (by omega))
    exact (h1.alloc (by omega) _).trans ⟨rfl, rfl, rfl, by simp [World.setRow], fun k hk => setRow_other _ _ _ _ (by omega)⟩
  · rw [setRow_other _ _ _ _ (by omega)]
    exact got1 Wn _
  · intro i hi hne
    rw [setRow_other _ _ _ _ hne]
    exact Below.heap_alloc Wn _ _ hi

/-- an answer without Args -/
theorem fin0 {w Wn : World} {o1 : Array Value} {o2 : Obj} (h : Below (w.heap.size + 2) ((w.alloc (.cells o1 29)).alloc o2) Wn) (rc : Array Value) : Below w.heap.size w (Wn.setRow w.heap.size rc) ∧ (Wn.setRow w.heap.size rc).heap[w.heap.size]? = some (.cells rc 29) ∧ Wn.heap[w.heap.size]? = some (.cells o1 29) := by
  have hz : w.heap.size + 2 ≤ Wn.heap.size := by have := h.size; simp at this; omega
  have hr : Wn.heap[w.heap.size]? = some (.cells o1 29) := by
    rw [h.block w.heap.size (by omega)]
    exact got_old _ _ (got1 w _)
  have h1 : Below w.heap.size w Wn := (below_aa w _ _).trans (h.mono (by omega))
  exact ⟨h1.trans ⟨rfl, rfl, rfl, by simp [World.setRow], fun k hk => setRow_other _ _ _ _ (by omega)⟩, setRow_heap _ _ _ _ _ _ hr, hr⟩

theorem infoStr : (Tryd.prog.info? 9).map (fun i => (i.zero, i.size, i.bytes)) = some (some (.string ⟨#[]⟩), 1, 16) := by kernel_rfl

/-- the variables' names -/
def vz (k : Nat) : ByteArray := if k = 0 then ⟨#[120]⟩ else if k = 1 then ⟨#[121]⟩ else pp (k - 2)
theorem vz_ok {pl k : Nat} (h : k < 2 + pl) : varOk pl (vz k) := by
  unfold vz
  by_cases h0 : k = 0
  · rw [if_pos h0]; exact .inl rfl
  · by_cases h1 : k = 1
    · rw [if_neg h0, if_pos h1]; exact .inr (.inl rfl)
    · rw [if_neg h0, if_neg h1]; exact .inr (.inr ⟨k - 2, by omega, rfl⟩)

theorem append_zero (w : World) (ty : TypeId) (b : Nat) (da : Option Addr) (c : Nat) :
    (Builtin.append_ #[35, 35] ty #[.slice (some ⟨b, 0, none⟩) 2 2, .slice da 0 c]).run Tryd.prog w = .ok (.slice (some ⟨b, 0, none⟩) 2 2) w := by
  obtain ⟨i0, hi, hz0, hz1, hz2⟩ := info_parts infoStr
  cases da <;> simp [Builtin.append_, Builtin.lenOf, Builtin.firstCells, run_underlying Tryd.underlying35, sizeOf, typeInfo, hi, loadCells, loadCellsFrom, storeCells, Result.andThen]

/-- 'append([]string{..}, params...)' without params -/
theorem wpList_append_zero {ops : Array Oper} {rest : List Oper} {o : Oper} {a : Act} {w : World} {Q : Exit → Act → World → Prop} (hg : o.guard = none) (s x : Operand) (hop : o.op = Op.call { callee := Callee.builtin Builtin.append, args := #[s, x], argTypes := #[35, 35] })
    (b : Nat) (hs : a.eval s = .slice (some ⟨b, 0, none⟩) 2 2) (da : Option Addr) (c : Nat) (hx : a.eval x = .slice da 0 c) (h : wpList Tryd.prog ops Q rest (a.put o.dst (.slice (some ⟨b, 0, none⟩) 2 2)) w) : wpList Tryd.prog ops Q (o :: rest) a w :=
  wpList_plain hg fun _ hK => by
    have hrun := append_zero w o.type b da c
    unfold Oper.wp
    simp [execOp, hop, resolve, invoke, builtin, hs, hx, hrun, Result.andThen]
    exact hK _ _ h

theorem cell_xy (w : World) (o o' : Obj) (k : Nat) (hk : k < 2) : (((w.alloc o).alloc o').alloc (.cells #[.string ⟨#[120]⟩, .string ⟨#[121]⟩] 9)).cell? ⟨w.heap.size + 1 + 1, k, none⟩ = some (.string (vz k)) := by
  have hg : (((w.alloc o).alloc o').alloc (.cells #[.string ⟨#[120]⟩, .string ⟨#[121]⟩] 9)).heap[w.heap.size + 1 + 1]? = some (.cells #[.string ⟨#[120]⟩, .string ⟨#[121]⟩] 9) := by
    have := got1 ((w.alloc o).alloc o') (.cells #[.string ⟨#[120]⟩, .string ⟨#[121]⟩] 9)
    rwa [show ((w.alloc o).alloc o').heap.size = w.heap.size + 1 + 1 by simp] at this
  obtain rfl | rfl : k = 0 ∨ k = 1 := by omega
  · exact cell_of_heap hg rfl
  · exact cell_of_heap hg rfl

theorem add_off (b o j : Nat) : (⟨b, o, none⟩ : Addr).add j = ⟨b, o + j, none⟩ := by
  by_cases h : j = 0
  · subst h; simp [Addr.add]
  · simp [Addr.add, h]

/-- the params' names, as cells -/
def pars : Nat → List Value
  | 0 => []
  | n + 1 => pars n ++ [.string (pp n)]
theorem pars_length : ∀ n, (pars n).length = n
  | 0 => rfl
  | n + 1 => by simp [pars, pars_length n]
theorem pars_one (n : Nat) : ∀ v ∈ pars n, v.oneCell' = true := by
  induction n with
  | zero => simp [pars]
  | succ n ih =>
    intro v hv
    simp only [pars, List.mem_append, List.mem_singleton] at hv
    rcases hv with hv | rfl
    · exact ih v hv
    · rfl
theorem pars_get : ∀ (n j : Nat), j < n → (pars n)[j]? = some (.string (pp j))
  | 0, j, h => by omega
  | n + 1, j, h => by
    rw [pars]
    rcases Nat.lt_or_ge j n with h' | h'
    · rw [List.getElem?_append_left (by rw [pars_length]; exact h'), pars_get n j h']
    · obtain rfl : j = n := by omega
      rw [List.getElem?_append_right (by rw [pars_length]; exact Nat.le_refl _), pars_length, Nat.sub_self]
      rfl
theorem par_src {w : World} {pa : Option Addr} {pl : Nat} (h : PPar w pa pl) (h0 : 0 < pl) : ∃ b o, pa = some ⟨b, o, none⟩ ∧ ∀ (j : Nat) (u : Value), (pars pl)[j]? = some u → w.cell? ((⟨b, o, none⟩ : Addr).add j) = some u := by
  obtain ⟨b, o, e, _⟩ := h 0 h0
  refine ⟨b, o, e, fun j u hj => ?_⟩
  have hl : j < pl := by
    rcases Nat.lt_or_ge j pl with h' | h'
    · exact h'
    · rw [List.getElem?_eq_none (by rw [pars_length]; exact h')] at hj
      cases hj
  rw [pars_get pl j hl] at hj
  obtain ⟨b', o', e', t⟩ := h j hl
  rw [e] at e'
  injection e' with e'
  injection e' with e1 e2
  subst e1 e2
  injection hj with hj
  subst hj
  rw [add_off]; exact t

theorem owns_xy (w : World) (o o' : Obj) : World.ownsRow (((w.alloc o).alloc o').alloc (.cells #[.string ⟨#[120]⟩, .string ⟨#[121]⟩] 9)) (w.heap.size + 2) 9 1 (.slice (some ⟨w.heap.size + 1 + 1, 0, none⟩) 2 2) 2 [.string ⟨#[120]⟩, .string ⟨#[121]⟩] := by
  have hg := got1 ((w.alloc o).alloc o') (.cells #[.string ⟨#[120]⟩, .string ⟨#[121]⟩] 9)
  rw [show ((w.alloc o).alloc o').heap.size = w.heap.size + 1 + 1 by simp] at hg
  exact ⟨rfl, .inr ⟨_, 2, _, rfl, by omega, hg, Nat.le_refl _, by unfold maxLen; decide, rfl, rfl⟩⟩

theorem own_form {w : World} {B : Nat} {v : Value} {n m : Nat} (h : w.ownsRow B 9 1 v (n + m) ([.string ⟨#[120]⟩, .string ⟨#[121]⟩] ++ pars m)) (hn : n = 2) : ∃ g c, v = .slice (some ⟨g, 0, none⟩) (2 + m) c ∧ ∀ k, k < 2 + m → w.cell? ⟨g, k, none⟩ = some (.string (vz k)) := by
  subst hn
  rcases h.2 with ⟨_, h0⟩ | ⟨g, c, cur, hv, _⟩
  · omega
  · refine ⟨g, c, hv, fun k hk => ?_⟩
    have := h.cells (g := g) (by rw [hv]; rfl) k (.string (vz k)) ?_
    · rw [add_off, Nat.zero_add] at this; exact this
    · obtain rfl | rfl | ⟨j, rfl⟩ : k = 0 ∨ k = 1 ∨ ∃ j, k = j + 2 := by
        rcases k with _ | _ | j
        · exact .inl rfl
        · exact .inr (.inl rfl)
        · exact .inr (.inr ⟨j, rfl⟩)
      · rfl
      · rfl
      · have e := pars_get m j (by omega)
        rw [List.getElem?_append_right (by simp)]
        simpa [vz] using e
theorem own_below {w w9 : World} {o1 : Array Value} {o2 : Obj} {t : TypeId} (h : World.grownBy (((w.alloc (.cells o1 29)).alloc o2).alloc (.cells #[.string ⟨#[120]⟩, .string ⟨#[121]⟩] t)) w9 (Value.slice (some ⟨w.heap.size + 1 + 1, 0, none⟩) 2 2).ownBlock) : Below (w.heap.size + 2) ((w.alloc (.cells o1 29)).alloc o2) w9 :=
  ((Below.refl _ _).alloc (by simp) _).grown h (by simp) (fun g e => by simp [Value.ownBlock] at e; omega)
/-- what was laid ahead is there still -/
theorem base_cells {w W : World} {v0 v1 v2 v3 : Value} {o1 : Array Value} (h : Below (w.heap.size + 2) ((w.alloc (.cells o1 29)).alloc (.cells #[v0, v1, v2, v3] 44)) W) : W.cell? ⟨w.heap.size + 1, 1, none⟩ = some v1 ∧ W.cell? ⟨w.heap.size + 1, 0, none⟩ = some v0 := by
  have hb : W.heap[w.heap.size + 1]? = some (.cells #[v0, v1, v2, v3] 44) := (h.block _ (by omega)).trans (got2 w _ _)
  exact ⟨cell_of_heap hb rfl, cell_of_heap hb rfl⟩

theorem five_keep {W : World} {g : Nat} {v0 v1 v2 v3 v4 v : Value} {a : Addr} (h : W.cell? a = some v) (hne : a.block ≠ g) : (((((W.setCell ⟨g, 0, none⟩ v0).setCell ⟨g, 1, none⟩ v1).setCell ⟨g, 2, none⟩ v2).setCell ⟨g, 3, none⟩ v3).setCell ⟨g, 4, none⟩ v4).cell? a = some v := by
  have s : ∀ (W : World) (j : Nat) (u : Value), (W.setCell ⟨g, j, none⟩ u).cell? a = W.cell? a := fun W j u => World.cell?_setCell_other (h := fun e => hne (by rw [← e])) ..
  rw [s, s, s, s, s]
  exact h
theorem five_heap {W : World} {g : Nat} {u0 u1 u2 u3 u4 v0 v1 v2 v3 v4 : Value} {t : TypeId} (h : W.heap[g]? = some (.cells #[u0, u1, u2, u3, u4] t (0, 0))) :
    (((((W.setCell ⟨g, 0, none⟩ v0).setCell ⟨g, 1, none⟩ v1).setCell ⟨g, 2, none⟩ v2).setCell ⟨g, 3, none⟩ v3).setCell ⟨g, 4, none⟩ v4).heap[g]? = some (.cells #[v0, v1, v2, v3, v4] t (0, 0)) := by
  have hl : g < W.heap.size := (Array.getElem?_eq_some_iff.1 h).1
  have hv : W.heap[g] = .cells #[u0, u1, u2, u3, u4] t (0, 0) := (Array.getElem?_eq_some_iff.1 h).2
  simp [World.setCell, Array.getElem?_modify, h]
theorem five_other {W : World} {g : Nat} {v0 v1 v2 v3 v4 : Value} (i : Nat) (hne : i ≠ g) : (((((W.setCell ⟨g, 0, none⟩ v0).setCell ⟨g, 1, none⟩ v1).setCell ⟨g, 2, none⟩ v2).setCell ⟨g, 3, none⟩ v3).setCell ⟨g, 4, none⟩ v4).heap[i]? = W.heap[i]? := by
  simp [World.setCell, Array.getElem?_modify, Ne.symm hne]
theorem five_size {W : World} {g : Nat} {v0 v1 v2 v3 v4 : Value} : (((((W.setCell ⟨g, 0, none⟩ v0).setCell ⟨g, 1, none⟩ v1).setCell ⟨g, 2, none⟩ v2).setCell ⟨g, 3, none⟩ v3).setCell ⟨g, 4, none⟩ v4).heap.size = W.heap.size := by
  simp [World.setCell]
theorem five_below {W0 W : World} {B g : Nat} {v0 v1 v2 v3 v4 : Value} (h : Below B W0 W) (hg : B ≤ g) : Below B W0 (((((W.setCell ⟨g, 0, none⟩ v0).setCell ⟨g, 1, none⟩ v1).setCell ⟨g, 2, none⟩ v2).setCell ⟨g, 3, none⟩ v3).setCell ⟨g, 4, none⟩ v4) := by
  have h1 := h.setCell (p := ⟨g, 0, none⟩) hg v0
  have h2 := h1.setCell (p := ⟨g, 1, none⟩) hg v1
  have h3 := h2.setCell (p := ⟨g, 2, none⟩) hg v2
  have h4 := h3.setCell (p := ⟨g, 3, none⟩) hg v3
  exact h4.setCell (p := ⟨g, 4, none⟩) hg v4

theorem five_cells {W : World} {g : Nat} {u0 u1 u2 u3 u4 : Value} {t : TypeId} (h : W.heap[g]? = some (.cells #[u0, u1, u2, u3, u4] t (0, 0))) :
    W.cell? ⟨g, 0, none⟩ = some u0 ∧ W.cell? ⟨g, 1, none⟩ = some u1 ∧ W.cell? ⟨g, 2, none⟩ = some u2 ∧ W.cell? ⟨g, 3, none⟩ = some u3 ∧ W.cell? ⟨g, 4, none⟩ = some u4 ∧ ∀ j, W.frozen? ⟨g, j, none⟩ = false :=
  ⟨cell_of_heap h rfl, cell_of_heap h rfl, cell_of_heap h rfl, cell_of_heap h rfl, cell_of_heap h rfl, fun j => Lib.frozen_of_heap h j⟩

theorem fin5 {w Wn : World} {o2 : Obj} {u0 u1 u2 u3 u4 v0 v1 v2 v3 v4 : Value} (h : Below (w.heap.size + 2) ((w.alloc (.cells #[u0, u1, u2, u3, u4] 29)).alloc o2) Wn) (cs : Array Value) : Fin w Wn ((((((Wn.alloc (.cells cs 29)).setCell ⟨w.heap.size, 0, none⟩ v0).setCell ⟨w.heap.size, 1, none⟩ v1).setCell ⟨w.heap.size, 2, none⟩ v2).setCell ⟨w.heap.size, 3, none⟩ v3).setCell ⟨w.heap.size, 4, none⟩ v4) cs #[v0, v1, v2, v3, v4] := by
  have hz : w.heap.size + 2 ≤ Wn.heap.size := by have := h.size; simp at this; omega
  have hr : (Wn.alloc (.cells cs 29)).heap[w.heap.size]? = some (.cells #[u0, u1, u2, u3, u4] 29) := by
    rw [Below.heap_alloc Wn _ _ (by omega), h.block w.heap.size (by omega)]
    exact got_old _ _ (got1 w _)
  refine ⟨?_, by rw [five_size]; simp, ?_, ?_, five_heap hr, hz⟩
  · have h1 : Below w.heap.size w Wn := (below_aa w _ _).trans (h.mono (by omega))
    exact five_below (h1.alloc (by omega) _) (Nat.le_refl _)
  · rw [five_other _ (by omega)]
    exact got1 Wn _
  · intro i hi hne
    rw [five_other _ hne]
    exact Below.heap_alloc Wn _ _ hi
end Go.Proofs.YtgjemlhnlpglbaaDoor.PExprBase
