/-
  THE LAW 'barbicankeep.ProgramsGood', WALKED: the call returns true.
  Conditions: the raw things and the units' names lie there.
-/
import Derived.Test.YtgjemlhnlpglbaaDoorR22
import Derived.Test.YtgjemlhnlpglbaaDoorR24
import Derived.Test.YtgjemlhnlpglbaaDoorR26
import Derived.Test.YtgjemlhnlpglbaaDoorR19
import Derived.Test.YtgjemlhnlpglbaaDoorR49
import Derived.Deep.CutRange
import Derived.Deep.CutBlock
namespace Go.Proofs.YtgjemlhnlpglbaaDoor.PGood
open Go.RowKit NPlain NSense PPlain PRaw PNumber PExprBase PStmtBase PWhileBase PProgBase PProgG PGather PGoodPlain PGoodMem Trees
open Go.Proofs.YtgjemlhnlpglbaaDoor.Bytes (cell_of_heap)

theorem sc {many : Nat} (hm : 1 ≤ many ∧ many ≤ 3) : ∀ d, SC d many
  | 0 => fun dep w la pa ln lc pl pc h1 h3 h5 => by omega
  | d + 1 => PStmts.stmts hm (PExpr.expr hm 12) (sc hm d)

/-- the program, made -/
theorem made (w : World) (la : Option Addr) (ln lc : Nat) (hl : Raws w la ln lc) (hn : Names w) :
    Calls Tryd.prog 6 #[.slice la ln lc] w fun e W => ∃ (g m cap : Nat) (X : Nat → ULay), e = .returned (.slice (some ⟨g, 0, none⟩) (m + 1) cap) ∧ Below w.heap.size w W ∧ w.heap.size ≤ g ∧ w.heap.size ≤ (X 0).bf ∧ PAt W g (m + 1) X (X 0) ∧ PFix g (m + 1) (m + 1) X :=
  (PProg.program (fun many hm => sc hm 12) w la ln lc hl hn).mono fun e W ⟨hb, ao, cap, X, he, hP⟩ => by
    obtain ⟨m, hm⟩ : ∃ m, 1 + ln % 3 = m + 1 := ⟨ln % 3, by omega⟩
    rw [hm] at he hP
    obtain ⟨g, cap', ev, hB, hA, hF, _⟩ := plies_at hP (by omega)
    rw [ev] at he
    refine ⟨g, m, cap', X, he, hb, hB, ?_, hA, hF⟩
    have h1 := hP.low 0 (by omega)
    have h2 := (hP.in_ 0 (by omega)).2.2.1
    omega

/-- what the values mean of which the turned body is made -/
def G7 (lo g m cap bf bo i : Nat) (xk xn : Int) (xof xs : ByteArray) (xao : Option Addr) (xl xc : Nat) (ao0 : Option Addr) (n0 c0 : Nat) (L0 : Nat → STree) : Nat → Value → World → Prop
  | 0, v, _ => v = .slice (some ⟨g, 0, none⟩) (m + 1) cap
  | 1, v, _ => v = .pointer (some ⟨g, 0, none⟩)
  | 2, v, _ => v = .pointer (some ⟨g, 3, none⟩)
  | 3, v, _ => v = .slice (some ⟨bf, 0, none⟩) 3 3
  | 4, v, _ => v = .slice (some ⟨bo, 0, none⟩) 6 6
  | 5, v, _ => v = .int .i64 i
  | 6, v, _ => v = .pointer (some ⟨bo, i * 5, none⟩)
  | 7, v, _ => v = .agg #[.int .i64 xk, .int .i64 xn, .string xof, .string xs, .slice xao xl xc]
  | 8, v, W => ∃ be, v = .slice (some ⟨be, 0, none⟩) 1 1 ∧ lo ≤ be ∧ W.heap[be]? = some (.cells #[.int .i64 xk, .int .i64 xn, .string xof, .string xs, .slice xao xl xc] 29)
  | 9, v, W => ∃ be, v = .agg #[.int .i64 6, .string ⟨#[]⟩, .slice (some ⟨be, 0, none⟩) 1 1, .slice none 0 0, .slice none 0 0] ∧ lo ≤ be ∧ W.heap[be]? = some (.cells #[.int .i64 xk, .int .i64 xn, .string xof, .string xs, .slice xao xl xc] 29)
  | 10, v, W => ∃ be bs, v = .slice (some ⟨bs, 0, none⟩) 1 1 ∧ lo ≤ be ∧ W.heap[be]? = some (.cells #[.int .i64 xk, .int .i64 xn, .string xof, .string xs, .slice xao xl xc] 29) ∧ W.heap[bs]? = some (.cells #[.int .i64 6, .string ⟨#[]⟩, .slice (some ⟨be, 0, none⟩) 1 1, .slice none 0 0, .slice none 0 0] 34)
  | 11, v, _ => v = .slice (some ⟨g, 0, none⟩) (m + 1) cap
  | 12, v, _ => v = .pointer (some ⟨g, 0, none⟩)
  | 13, v, _ => v = .pointer (some ⟨g, 3, none⟩)
  | 14, v, _ => v = .slice (some ⟨bf, 0, none⟩) 3 3
  | 15, v, _ => v = .pointer (some ⟨bf, 0, none⟩)
  | 16, v, _ => v = .pointer (some ⟨bf, 3, none⟩)
  | 17, v, _ => v = .slice ao0 n0 c0
  | 18, v, W => ∃ be gb cb cs fr, v = .slice (some ⟨gb, 0, none⟩) (n0 + 1) cb ∧ lo ≤ be ∧ W.heap[be]? = some (.cells #[.int .i64 xk, .int .i64 xn, .string xof, .string xs, .slice xao xl xc] 29) ∧ W.heap[gb]? = some (.cells cs 34 fr) ∧ ∀ (j : Nat) (u : Value), (sayL be ++ flatS L0 n0)[j]? = some u → cs[j]? = some u
  | 19, v, _ => v = .pointer (some ⟨bf, 0, none⟩)
  | 20, v, _ => v = .pointer (some ⟨bf, 3, none⟩)
  | _, _, _ => True
theorem G7_below (lo g m cap bf bo i : Nat) (xk xn : Int) (xof xs : ByteArray) (xao : Option Addr) (xl xc : Nat) (ao0 : Option Addr) (n0 c0 : Nat) (L0 : Nat → STree) : ∀ j v w w', G7 lo g m cap bf bo i xk xn xof xs xao xl xc ao0 n0 c0 L0 j v w → Below w.heap.size w w' → G7 lo g m cap bf bo i xk xn xof xs xao xl xc ao0 n0 c0 L0 j v w'
  | 0, _, _, _, h, _ => h
  | 1, _, _, _, h, _ => h
  | 2, _, _, _, h, _ => h
  | 3, _, _, _, h, _ => h
  | 4, _, _, _, h, _ => h
  | 5, _, _, _, h, _ => h
  | 6, _, _, _, h, _ => h
  | 7, _, _, _, h, _ => h
  | 8, _, _, _, ⟨be, h1, h2, h3⟩, hb => ⟨be, h1, h2, kept hb h3⟩
  | 9, _, _, _, ⟨be, h1, h2, h3⟩, hb => ⟨be, h1, h2, kept hb h3⟩
  | 10, _, _, _, ⟨be, bs, h1, h2, h3, h4⟩, hb => ⟨be, bs, h1, h2, kept hb h3, kept hb h4⟩
  | 11, _, _, _, h, _ => h
  | 12, _, _, _, h, _ => h
  | 13, _, _, _, h, _ => h
  | 14, _, _, _, h, _ => h
  | 15, _, _, _, h, _ => h
  | 16, _, _, _, h, _ => h
  | 17, _, _, _, h, _ => h
  | 18, _, _, _, ⟨be, gb, cb, cs, fr, h1, h2, h3, h4, h5⟩, hb => ⟨be, gb, cb, cs, fr, h1, h2, kept hb h3, kept hb h4, h5⟩
  | 19, _, _, _, h, _ => h
  | 20, _, _, _, h, _ => h
  | _ + 21, _, _, _, _, _ => trivial

theorem infoStmt2 : (Tryd.prog.info? 34).map (fun i => (i.zero, i.size, i.bytes)) = some (some (.agg #[.int .i64 0, .string ⟨#[]⟩, .slice none 0 0, .slice none 0 0, .slice none 0 0]), 5, 96) := by kernel_rfl

set_option maxRecDepth 100000 in
theorem append_none (w : World) (ty : TypeId) (b : Nat) (da : Option Addr) (c : Nat) :
    (Builtin.append_ #[32, 32] ty #[.slice (some ⟨b, 0, none⟩) 1 1, .slice da 0 c]).run Tryd.prog w = .ok (.slice (some ⟨b, 0, none⟩) 1 1) w := by
  obtain ⟨i0, hi, hz0, hz1, hz2⟩ := info_parts infoStmt2
  cases da <;> simp [Builtin.append_, Builtin.lenOf, Builtin.firstCells, run_underlying Tryd.underlying32, sizeOf, typeInfo, hi, loadCells, loadCellsFrom, storeCells, Result.andThen]

set_option maxRecDepth 100000 in
/-- the append of the old body to the new statement -/
theorem app_step {a : Act} {W W6 : World} {K : Act → World → Prop} {Q : Exit → Act → World → Prop} {g m cap bf bo i be bs : Nat} {xk xn : Int} {xof xs : ByteArray} {xao : Option Addr} {xl xc : Nat} {ao0 : Option Addr} {n0 c0 : Nat} {L0 : Nat → STree} {pos : String} {after : Array Edge}
    (e : a.tmps[41]?.getD undef = .slice (some ⟨bs, 0, none⟩) 1 1) (e2 : a.tmps[48]?.getD undef = .slice ao0 n0 c0) (h1 : W6.heap.size ≤ be) (h2 : W.heap[be]? = some (.cells #[.int .i64 xk, .int .i64 xn, .string xof, .string xs, .slice xao xl xc] 29)) (h3 : W.heap[bs]? = some (.cells #[.int .i64 6, .string ⟨#[]⟩, .slice (some ⟨be, 0, none⟩) 1 1, .slice none 0 0, .slice none 0 0] 34))
    (hS : SRow W 12 ao0 n0 L0) (hn : n0 ≤ 1000) (_ : Below W6.heap.size W6 W)
    (hK : ∀ v w', G7 W6.heap.size g m cap bf bo i xk xn xof xs xao xl xc ao0 n0 c0 L0 18 v w' → Below W.heap.size W w' → K (a.put (some 49) v) w') :
    Oper.wp Tryd.prog { dst := some 49, op := Op.call { callee := Callee.builtin Builtin.append, args := #[Operand.tmp 41, Operand.tmp 48], argTypes := #[32, 32] }, type := 32, pos := pos, after := after, guard := none } a W K Q := by
  have ev1 : a.eval (.tmp 41) = .slice (some ⟨bs, 0, none⟩) 1 1 := by rw [← e]; simp [Act.eval, Array.getD_eq_getD_getElem?]
  have ev2 : a.eval (.tmp 48) = .slice ao0 n0 c0 := by rw [← e2]; simp [Act.eval, Array.getD_eq_getD_getElem?]
  rcases n0 with _ | n
  · have hrun := append_none W 32 bs ao0 c0
    unfold Oper.wp
    simp only [execOp, resolve, invoke, builtin]
    simp [ev1, ev2, hrun, Result.andThen]
    exact hK _ _ ⟨be, bs, 1, _, _, rfl, h1, h2, h3, fun j u hu => by
      simp only [flatS, List.append_nil, sayL] at hu
      simpa using hu⟩ (Below.refl _ _)
  · obtain ⟨bl, off, rfl, hsrc⟩ := row_src hS (by omega)
    obtain ⟨i0, gi, gz0, gz1, gz2⟩ := info_parts infoStmt2
    have hst := step_append_grows (P := Tryd.prog) (ops := #[]) (o := { dst := some 49, op := Op.call { callee := Callee.builtin Builtin.append, args := #[Operand.tmp 41, Operand.tmp 48], argTypes := #[32, 32] }, type := 32, pos := pos, after := after, guard := none }) (a := a) (w := W) (K := K) (Q := Q) (E := True)
      rfl (.tmp 41) (.tmp 48) 32 rfl 34 i0 (.agg #[.int .i64 0, .string ⟨#[]⟩, .slice none 0 0, .slice none 0 0, .slice none 0 0]) 5 96 Tryd.underlying32 gi gz0 gz1 gz2 rfl (by decide) (some ⟨bs, 0, none⟩) 1 1 (sayL be) ev1 (fun h => by cases h) rfl
      (fun b eb j u hu => by injection eb with eb; subst eb; exact five_of h3 j u hu) ⟨bl, off, none⟩ (n + 1) c0 (flatS L0 (n + 1)) ev2 (flatS_length L0 (n + 1)) hsrc (flatS_one L0 (n + 1)) (by omega) (by unfold maxLen; omega) (by omega)
      (fun v' w' ho hg => by
        rcases ho.2 with ⟨_, h0⟩ | ⟨gb, cb, cur, hv, hB, hgb, _⟩
        · omega
        · have hbel : Below W.heap.size W w' := ⟨hg.os, hg.tape, hg.output, hg.size, fun k hk => hg.block k hk (by simp)⟩
          refine hK _ _ ⟨be, gb, cb, cur, _, by rw [hv, Nat.add_comm], h1, kept hbel h2, hgb, fun j u hu => ?_⟩ hbel
          have := ho.cells (g := gb) (by rw [hv]; rfl) j u hu
          rw [add_off, Nat.zero_add] at this
          simpa [World.cell?, hgb] using this)
    simpa [Region.wanted] using hst
end Go.Proofs.YtgjemlhnlpglbaaDoor.PGood

namespace Go.Proofs.YtgjemlhnlpglbaaDoor.PGoodWalk
open Go.RowKit NPlain NSense PPlain PRaw PNumber PExprBase PStmtBase PWhileBase PProgBase PProgG PGather PGoodPlain PGoodMem PGood Trees
open Go.Proofs.YtgjemlhnlpglbaaDoor.Bytes (cell_of_heap)

def errC : Array Value := #[.int .i64 5, .int .i64 5, .int .i64 5, .int .i64 5, .int .i64 5, .int .i64 7]
theorem err_cell : ∀ i, i < 6 → errC[i]? = some (.int .i64 (errOf i)) := six rfl rfl rfl rfl rfl rfl

def OddsAt (W2 : World) (s : Value) (W : World) : Prop := Below W2.heap.size W2 W ∧ ∃ bo b1 b2, s = .slice (some ⟨bo, 0, none⟩) 6 6 ∧ W.heap[bo]? = some (.cells (oddC b1 b2) 29) ∧ W.heap[b1]? = some (.cells numC 29) ∧ W.heap[b2]? = some (.cells numC 29)
theorem odds_at {W2 : World} {bo : Nat} (h : bo = W2.heap.size + 2) : OddsAt W2 (.slice (some ⟨bo, 0, none⟩) 6 6) (((W2.alloc (.cells numC 29)).alloc (.cells numC 29)).alloc (.cells (oddC W2.heap.size (W2.heap.size + 1)) 29)) := by
  subst h
  refine ⟨below_aaa W2 _ _ _, _, _, _, rfl, ?_, got_old _ _ (got_old _ _ (got1 W2 _)), got_old _ _ (got2 W2 _ _)⟩
  have := got1 ((W2.alloc (.cells numC 29)).alloc (.cells numC 29)) (.cells (oddC W2.heap.size (W2.heap.size + 1)) 29)
  rwa [show ((W2.alloc (.cells numC 29)).alloc (.cells numC 29)).heap.size = W2.heap.size + 2 by simp] at this

theorem setB_again (x : ULay) (ao ao' : Option Addr) (n n' c c' : Nat) (L L' : Nat → STree) (s e s' e' : Nat) : setB (setB x ao n c L s e) ao' n' c' L' s' e' = setB x ao' n' c' L' s' e' := by
  unfold setB
  congr 1 <;> (funext k; dsimp only; split <;> rfl)

theorem setB_keeps (x : ULay) (ao : Option Addr) (n c : Nat) (L : Nat → STree) (s e : Nat) : (setB x ao n c L s e).bv = x.bv ∧ (setB x ao n c L s e).ba = x.ba ∧ (setB x ao n c L s e).bf = x.bf ∧ (setB x ao n c L s e).p0 = x.p0 ∧ (setB x ao n c L s e).p1 = x.p1 := ⟨rfl, rfl, rfl, rfl, rfl⟩

/-- units, as they are checked -/
theorem row_of {W : World} {g m : Nat} {X : Nat → ULay} {x0 : ULay} (h : PAt W g (m + 1) X x0) (hf : PFix g (m + 1) (m + 1) X) (hx : x0.bv = (X 0).bv ∧ x0.ba = (X 0).ba ∧ x0.bf = (X 0).bf) (hn : ∀ k, k < 3 → x0.n k ≤ 2000) :
    URow W (some ⟨g, 0, none⟩) (m + 1) (putU (unitD 0 x0) X) := by
  refine pat_row h hf (first_lies h.first hn) ?_
  have c := h.row 0 (by omega)
  refine ⟨c 0 (by omega), ?_, ?_, ?_⟩
  · show _ = some (Value.slice (some ⟨x0.bv, 0, none⟩) 2 2)
    rw [hx.1]; exact c 1 (by omega)
  · show _ = some (Value.slice (some ⟨x0.ba, 0, none⟩) 1 1)
    rw [hx.2.1]; exact c 2 (by omega)
  · show _ = some (Value.slice (some ⟨x0.bf, 0, none⟩) 3 3)
    rw [hx.2.2]; exact c 3 (by omega)

theorem putU_same (X : Nat → ULay) : putU (unitD 0 (X 0)) X = unitsD X := by
  funext i
  unfold putU unitsD
  split
  · rename_i h; rw [h]
  · rfl

/-- with a variable more -/
theorem vars_row {W : World} {g m gv cv : Nat} {X : Nat → ULay} {x0 : ULay} {cs : Array Value} {fr : Nat × Nat} (h : PAt W g (m + 1) X x0) (hf : PFix g (m + 1) (m + 1) X) (hx : x0.ba = (X 0).ba ∧ x0.bf = (X 0).bf) (hk : ∀ k, 1 ≤ k → k < 3 → x0.s k = (X 0).s k ∧ x0.e k = (X 0).e k) (hn : ∀ k, k < 3 → x0.n k ≤ 2000) (h0 : x0.n 0 = 0)
    (hgv : W.heap[gv]? = some (.cells cs 9 fr)) (hcs : ∀ (j : Nat) (u : Value), ([.string ⟨#[120]⟩, .string ⟨#[121]⟩, .string ⟨#[97, 114, 114]⟩] : List Value)[j]? = some u → cs[j]? = some u) :
    URow (W.setCell ⟨g, 1, none⟩ (.slice (some ⟨gv, 0, none⟩) 3 cv)) (some ⟨g, 0, none⟩) (m + 1) (putU (unitV x0 (some ⟨gv, 0, none⟩) cv) X) := by
  obtain ⟨gcs, hg⟩ := h.gt
  have old : ∀ b, b ≠ g → (W.setCell ⟨g, 1, none⟩ (.slice (some ⟨gv, 0, none⟩) 3 cv)).heap[b]? = W.heap[b]? := fun b hb => Below.heap_setCell _ _ _ _ (by show b ≠ g; exact hb)
  have ne : ∀ {b : Nat} {cs : Array Value} {t : TypeId} {fr : Nat × Nat}, W.heap[b]? = some (.cells cs t fr) → t ≠ 41 → b ≠ g := fun hb ht e => by
    subst e
    rw [hg] at hb
    injection hb with hb
    injection hb with _ hb
    exact ht hb.symm
  have cold : ∀ j, j ≠ 1 → (W.setCell ⟨g, 1, none⟩ (.slice (some ⟨gv, 0, none⟩) 3 cv)).cell? ⟨g, j, none⟩ = W.cell? ⟨g, j, none⟩ := fun j hj => World.cell?_setCell_other (h := fun e => hj (by injection e with _ e _; exact e.symm)) ..
  obtain ⟨h1, h2, h3, h4, h5, h6⟩ := h.first
  have hat : UAt 0 x0 (W.setCell ⟨g, 1, none⟩ (.slice (some ⟨gv, 0, none⟩) 3 cv)) := by
    refine ⟨(old _ (ne h1 (by decide))).trans h1, (old _ (ne h2 (by decide))).trans h2, (old _ (ne h3 (by decide))).trans h3, (old _ (ne h4 (by decide))).trans h4, (old _ (ne h5 (by decide))).trans h5, fun k hk' W' hA => ?_⟩
    rcases k with _ | k
    · rw [h0]; exact SRow_none _
    · have ho := hf.off 0 (by omega)
      have hi := hf.in_ 0 (by omega)
      have hs := hi.2.2.2.2.2 (k + 1) hk'
      have hkk := hk (k + 1) (by omega) hk'
      have hb3 := hi.2.2.1
      exact h6 (k + 1) hk' W' fun b b1 b2 => (hA b b1 b2).trans (old b (by omega))
  have hcell : ∀ j, j < 3 → ∀ u, ([.string ⟨#[120]⟩, .string ⟨#[121]⟩, .string ⟨#[97, 114, 114]⟩] : List Value)[j]? = some u → (W.setCell ⟨g, 1, none⟩ (.slice (some ⟨gv, 0, none⟩) 3 cv)).cell? ⟨gv, 0 + j, none⟩ = some u := fun j hj u hu => by
    have e1 := (old gv (ne hgv (by decide))).trans hgv
    rw [Nat.zero_add]
    simp [World.cell?, e1, hcs j u hu]
  have hstr : Strs (W.setCell ⟨g, 1, none⟩ (.slice (some ⟨gv, 0, none⟩) 3 cv)) (some ⟨gv, 0, none⟩) 3 fun k => if k = 2 then narr else vz k := fun k hk' => by
    obtain rfl | rfl | rfl : k = 0 ∨ k = 1 ∨ k = 2 := by omega
    · exact ⟨⟨gv, 0, rfl, hcell 0 (by omega) _ rfl⟩, vz_size 0⟩
    · exact ⟨⟨gv, 0, rfl, hcell 1 (by omega) _ rfl⟩, vz_size 1⟩
    · exact ⟨⟨gv, 0, rfl, hcell 2 (by omega) _ rfl⟩, leArr⟩
  have c := h.row 0 (by omega)
  have c0 := c 0 (by omega)
  have c1 := c 1 (by omega)
  have c2 := c 2 (by omega)
  have c3 := c 3 (by omega)
  intro i hi
  rcases i with _ | i
  · refine ⟨⟨g, 0, rfl, (cold 0 (by omega)).trans c0, World.cell?_setCell_same _ _ _ c1, ?_, ?_⟩, firstV_lies hat hn hstr⟩
    · show _ = some (Value.slice (some ⟨x0.ba, 0, none⟩) 1 1)
      rw [hx.1]; exact (cold 2 (by omega)).trans c2
    · show _ = some (Value.slice (some ⟨x0.bf, 0, none⟩) 3 3)
      rw [hx.2]; exact (cold 3 (by omega)).trans c3
  · have e : putU (unitV x0 (some ⟨gv, 0, none⟩) cv) X (i + 1) = unitD (i + 1) (X (i + 1)) := if_neg (by omega)
    rw [e]
    have ci := h.row (i + 1) hi
    have ho := hf.off (i + 1) hi
    refine ⟨⟨g, 0, rfl, ?_, ?_, ?_, ?_⟩, unit_lies (UAt_agree (h.rest (i + 1) (by omega) hi) (hf.in_ (i + 1) hi) fun b b1 b2 => old b (by omega)) (hf.ok (i + 1) hi)⟩
    all_goals rw [Nat.zero_add]
    · exact (cold _ (by omega)).trans (ci 0 (by omega))
    · exact (cold _ (by omega)).trans (ci 1 (by omega))
    · exact (cold _ (by omega)).trans (ci 2 (by omega))
    · exact (cold _ (by omega)).trans (ci 3 (by omega))

/-- what stands behind the turned body -/
def Turned (w : World) (g m b1 b2 bE i : Nat) (X : Nat → ULay) (W : World) : Prop :=
  Below w.heap.size w W ∧ W.heap[bE]? = some (.cells errC 25) ∧ ∃ ao c be e, PAt W g (m + 1) X (setB (X 0) ao ((X 0).n 0 + 1) c (consS (sayT (oddT i b1 b2) be) ((X 0).L 0)) 0 e)
/-- and behind the body that was taken away -/
def Bare (w : World) (g m bE : Nat) (X : Nat → ULay) (W : World) : Prop :=
  Below w.heap.size w W ∧ W.heap[bE]? = some (.cells errC 25) ∧ ∃ L e, PAt W g (m + 1) X (setB (X 0) none 0 0 L 0 e)

theorem turned {w W : World} {g m b1 b2 bE i be gb cb : Nat} {X : Nat → ULay} {cs : Array Value} {fr : Nat × Nat} (hi : i < 6) (h : PAt W g (m + 1) X (X 0)) (hf : PFix g (m + 1) (m + 1) X) (hw : Below w.heap.size w W) (hbf : w.heap.size ≤ (X 0).bf) (hE : W.heap[bE]? = some (.cells errC 25))
    (h1 : W.heap[b1]? = some (.cells numC 29)) (h2 : W.heap[b2]? = some (.cells numC 29)) (hbe : W.heap[be]? = some (.cells (five (oddN i b1 b2)).toArray 29)) (hgb : W.heap[gb]? = some (.cells cs 34 fr)) (hcs : ∀ (j : Nat) (u : Value), (sayL be ++ flatS ((X 0).L 0) ((X 0).n 0))[j]? = some u → cs[j]? = some u) :
    Turned w g m b1 b2 bE i X (W.setCell ⟨(X 0).bf, 3, none⟩ (.slice (some ⟨gb, 0, none⟩) ((X 0).n 0 + 1) cb)) := by
  have hbfc := h.first.2.2.1
  have ne : ∀ {b : Nat} {cs : Array Value} {t : TypeId} {fr : Nat × Nat}, W.heap[b]? = some (.cells cs t fr) → t ≠ 37 → b ≠ (X 0).bf := fun hb ht e => by
    subst e
    rw [hbfc] at hb
    injection hb with hb
    injection hb with _ hb
    exact ht hb.symm
  have old : ∀ b, b ≠ (X 0).bf → (W.setCell ⟨(X 0).bf, 3, none⟩ (.slice (some ⟨gb, 0, none⟩) ((X 0).n 0 + 1) cb)).heap[b]? = W.heap[b]? := fun b hb => Below.heap_setCell _ _ _ _ (by show b ≠ (X 0).bf; exact hb)
  have lt : ∀ {b : Nat} {o : Obj}, W.heap[b]? = some o → b < W.heap.size := fun h => (Array.getElem?_eq_some_iff.1 h).1
  have hin := hf.in_ 0 (by omega)
  refine ⟨hw.setCell (p := ⟨(X 0).bf, 3, none⟩) hbf _, (old bE (ne hE (by decide))).trans hE, some ⟨gb, 0, none⟩, cb, be, W.heap.size, pat_body h hf ⟨rfl, rfl, rfl, rfl, rfl⟩ (fun k _ hk => (hin.2.2.2.2.2 k hk).2.2) _ _ _ _ fun W' hA => ?_⟩
  have k : ∀ {b : Nat} {cs : Array Value} {t : TypeId} {fr : Nat × Nat}, W.heap[b]? = some (.cells cs t fr) → t ≠ 37 → W'.heap[b]? = some (.cells cs t fr) := fun hb ht => (hA _ (Nat.zero_le _) (lt hb)).trans ((old _ (ne hb ht)).trans hb)
  have hL : SRow W' 12 ((X 0).ao 0) ((X 0).n 0) ((X 0).L 0) := h.first.2.2.2.2.2 0 (by omega) W' fun b c1 c2 => by
    have h3 := hin.2.2.2.2.2 0 (by omega)
    have h4 := lt hbfc
    exact (hA b (Nat.zero_le _) (by omega)).trans (old b (by omega))
  exact cons_row (fr := fr) (fr2 := (0, 0)) hi (k hgb (by decide)) hcs (k hbe (by decide)) (fun j _ => by simp) (k h1 (by decide)) (k h2 (by decide)) hL

theorem bare {w W : World} {g m b1 b2 bE i : Nat} {X : Nat → ULay} (h : Turned w g m b1 b2 bE i X W) (hf : PFix g (m + 1) (m + 1) X) (hbf : w.heap.size ≤ (X 0).bf) :
    Bare w g m bE X (W.setCell ⟨(X 0).bf, 3, none⟩ (.slice none 0 0)) := by
  obtain ⟨hw, hE, ao, c, be, e, hP⟩ := h
  have hbfc := hP.first.2.2.1
  have hne : bE ≠ (X 0).bf := fun eq => by
    rw [eq] at hE
    have hbfc : W.heap[(X 0).bf]? = _ := hbfc
    rw [hE] at hbfc
    injection hbfc with hb
    injection hb with _ hb
    exact absurd hb (by decide)
  have hin := hf.in_ 0 (by omega)
  have hb := pat_body hP hf (setB_keeps ..) (fun k k1 hk => by
    obtain ⟨k, rfl⟩ : ∃ j, k = j + 1 := ⟨k - 1, by omega⟩
    exact (hin.2.2.2.2.2 (k + 1) hk).2.2) none 0 0 ((X 0).L 0) fun W' _ => SRow_none _
  rw [setB_again] at hb
  exact ⟨hw.setCell (p := ⟨(X 0).bf, 3, none⟩) hbf _, (Below.heap_setCell _ _ _ _ (by show bE ≠ (X 0).bf; exact hne)).trans hE, _, _, hb⟩

theorem Turned.below {w W W2 : World} {g m b1 b2 bE i : Nat} {X : Nat → ULay} (h : Turned w g m b1 b2 bE i X W) (hf : PFix g (m + 1) (m + 1) X) (hb : Below W.heap.size W W2) : Turned w g m b1 b2 bE i X W2 := by
  obtain ⟨hw, hE, ao, c, be, e, hP⟩ := h
  exact ⟨hw.trans (hb.mono hw.size), kept hb hE, ao, c, be, e, hP.below hf.in_ hb⟩

/-- behind the variable that was put behind the others -/
def Last (w : World) (g m bE : Nat) (X : Nat → ULay) (W : World) : Prop :=
  Below w.heap.size w W ∧ W.heap[bE]? = some (.cells errC 25) ∧ ∃ va vc L e, URow W (some ⟨g, 0, none⟩) (m + 1) (putU (unitV (setB (X 0) none 0 0 L 0 e) va vc) X)
theorem last {w W9 w4 : World} {g m bE gv cv : Nat} {X : Nat → ULay} {cs : Array Value} {fr : Nat × Nat} (h : Bare w g m bE X W9) (hf : PFix g (m + 1) (m + 1) X) (hb : Below W9.heap.size W9 w4) (hg : w.heap.size ≤ g) (hgv : w4.heap[gv]? = some (.cells cs 9 fr)) (hcs : ∀ (j : Nat) (u : Value), ([.string ⟨#[120]⟩, .string ⟨#[121]⟩, .string ⟨#[97, 114, 114]⟩] : List Value)[j]? = some u → cs[j]? = some u) :
    Last w g m bE X (w4.setCell ⟨g, 1, none⟩ (.slice (some ⟨gv, 0, none⟩) 3 cv)) := by
  obtain ⟨hw, hE, L, e, hP⟩ := h
  have hP4 := hP.below hf.in_ hb
  have hE4 := kept hb hE
  obtain ⟨gcs, hgc⟩ := hP4.gt
  have hne : bE ≠ g := fun eq => by
    rw [eq, hgc] at hE4
    injection hE4 with hx
    injection hx with _ hx
    exact absurd hx (by decide)
  refine ⟨(hw.trans (hb.mono hw.size)).setCell (p := ⟨g, 1, none⟩) hg _, (Below.heap_setCell _ _ _ _ (by show bE ≠ g; exact hne)).trans hE4, _, _, L, e, vars_row hP4 hf ⟨rfl, rfl⟩ (fun k k1 k3 => ?_) (fun k hk => ?_) rfl hgv hcs⟩
  · obtain ⟨k, rfl⟩ : ∃ j, k = j + 1 := ⟨k - 1, by omega⟩
    exact ⟨rfl, rfl⟩
  · rcases k with _ | k
    · exact Nat.zero_le _
    · have := (hf.ok 0 (by omega) (k + 1) hk).2.2
      exact Nat.le_trans this (by omega)
theorem turned_n {X : Nat → ULay} {g m c s e : Nat} {ao : Option Addr} {L : Nat → STree} (hf : PFix g (m + 1) (m + 1) X) : ∀ k, k < 3 → (setB (X 0) ao ((X 0).n 0 + 1) c L s e).n k ≤ 2000 := fun k hk => by
  have h := (hf.ok 0 (by omega) k hk).2.2
  rcases k with _ | k
  · show (X 0).n 0 + 1 ≤ 2000; omega
  · exact Nat.le_trans h (by omega)
end Go.Proofs.YtgjemlhnlpglbaaDoor.PGoodWalk
