/-
  THE LAW 'barbicankeep.ProgramsGood', WALKED: the call returns true.
  Conditions: the raw things and the units' names lie there.
-/
import Derived.Test.YtgjemlhnlpglbaaDoorR22
import Derived.Test.YtgjemlhnlpglbaaDoorR24
import Derived.Test.YtgjemlhnlpglbaaDoorR26
import Derived.Test.YtgjemlhnlpglbaaDoorR19
import Derived.Test.YtgjemlhnlpglbaaDoorR49
namespace Go.Proofs.YtgjemlhnlpglbaaDoor.PGood
open Go.RowKit NPlain NSense PPlain PRaw PNumber PExprBase PStmtBase PWhileBase PProgBase PProgG PGather PGoodPlain PGoodMem Trees
open Go.Proofs.YtgjemlhnlpglbaaDoor.Bytes (cell_of_heap)

theorem sc {many : Nat} (hm : 1 ≤ many ∧ many ≤ 3) : ∀ d, SC d many
  | 0 => fun dep w la pa ln lc pl pc h1 h3 h5 => by omega
  | d + 1 => PStmts.stmts hm (PExpr.expr hm 12) (sc hm d)

/-- the program, made -/
theorem made (w : World) (la : Option Addr) (ln lc : Nat) (hl : Raws w la ln lc) (hn : Names w) :
    Calls Tryd.prog 6 #[.slice la ln lc] w fun e W => ∃ (g m cap : Nat) (X : Nat → ULay), e = .returned (.slice (some ⟨g, 0, none⟩) (m + 1) cap) ∧ Below w.heap.size w W ∧ w.heap.size ≤ g ∧ w.heap.size ≤ (X 0).bf ∧ PAt W g (m + 1) X (X 0) ∧ PFix g (m + 1) (m + 1) X :=
  (PProg.program (fun many hm => sc hm 12) w la ln lc hl hn).mono fun e W ⟨hb, ao, cap, X, he, hP⟩ => by
    obtain ⟨m, hm⟩ : ∃ m, 1 + ln % 3 = m + 1 := ⟨ln % 3, by omega⟩
    rw [hm] at he hP
    obtain ⟨g, cap', ev, hB, hA, hF, _⟩ := plies_at hP (by omega)
    rw [ev] at he
    refine ⟨g, m, cap', X, he, hb, hB, ?_, hA, hF⟩
    have h1 := hP.low 0 (by omega)
    have h2 := (hP.in_ 0 (by omega)).2.2.1
    omega

/-- what the values mean of which the turned body is made -/
def G7 (lo g m cap bf bo i : Nat) (xk xn : Int) (xof xs : ByteArray) (xao : Option Addr) (xl xc : Nat) (ao0 : Option Addr) (n0 c0 : Nat) (L0 : Nat → STree) : Nat → Value → World → Prop
  | 0, v, _ => v = .slice (some ⟨g, 0, none⟩) (m + 1) cap
  | 1, v, _ => v = .pointer (some ⟨g, 0, none⟩)
  | 2, v, _ => v = .pointer (some ⟨g, 3, none⟩)
  | 3, v, _ => v = .slice (some ⟨bf, 0, none⟩) 3 3
  | 4, v, _ => v = .slice (some ⟨bo, 0, none⟩) 6 6
  | 5, v, _ => v = .int .i64 i
  | 6, v, _ => v = .pointer (some ⟨bo, i * 5, none⟩)
  | 7, v, _ => v = .agg #[.int .i64 xk, .int .i64 xn, .string xof, .string xs, .slice xao xl xc]
  | 8, v, W => ∃ be, v = .slice (some ⟨be, 0, none⟩) 1 1 ∧ lo ≤ be ∧ W.heap[be]? = some (.cells #[.int .i64 xk, .int .i64 xn, .string xof, .string xs, .slice xao xl xc] 29)
  | 9, v, W => ∃ be, v = .agg #[.int .i64 6, .string ⟨#[]⟩, .slice (some ⟨be, 0, none⟩) 1 1, .slice none 0 0, .slice none 0 0] ∧ lo ≤ be ∧ W.heap[be]? = some (.cells #[.int .i64 xk, .int .i64 xn, .string xof, .string xs, .slice xao xl xc] 29)
  | 10, v, W => ∃ be bs, v = .slice (some ⟨bs, 0, none⟩) 1 1 ∧ lo ≤ be ∧ W.heap[be]? = some (.cells #[.int .i64 xk, .int .i64 xn, .string xof, .string xs, .slice xao xl xc] 29) ∧ W.heap[bs]? = some (.cells #[.int .i64 6, .string ⟨#[]⟩, .slice (some ⟨be, 0, none⟩) 1 1, .slice none 0 0, .slice none 0 0] 34)
  | 11, v, _ => v = .slice (some ⟨g, 0, none⟩) (m + 1) cap
  | 12, v, _ => v = .pointer (some ⟨g, 0, none⟩)
  | 13, v, _ => v = .pointer (some ⟨g, 3, none⟩)
  | 14, v, _ => v = .slice (some ⟨bf, 0, none⟩) 3 3
  | 15, v, _ => v = .pointer (some ⟨bf, 0, none⟩)
  | 16, v, _ => v = .pointer (some ⟨bf, 3, none⟩)
  | 17, v, _ => v = .slice ao0 n0 c0
  | 18, v, W => ∃ be gb cb cs fr, v = .slice (some ⟨gb, 0, none⟩) (n0 + 1) cb ∧ lo ≤ be ∧ W.heap[be]? = some (.cells #[.int .i64 xk, .int .i64 xn, .string xof, .string xs, .slice xao xl xc] 29) ∧ W.heap[gb]? = some (.cells cs 34 fr) ∧ ∀ (j : Nat) (u : Value), (sayL be ++ flatS L0 n0)[j]? = some u → cs[j]? = some u
  | 19, v, _ => v = .pointer (some ⟨bf, 0, none⟩)
  | 20, v, _ => v = .pointer (some ⟨bf, 3, none⟩)
  | _, _, _ => True
theorem G7_below (lo g m cap bf bo i : Nat) (xk xn : Int) (xof xs : ByteArray) (xao : Option Addr) (xl xc : Nat) (ao0 : Option Addr) (n0 c0 : Nat) (L0 : Nat → STree) : ∀ j v w w', G7 lo g m cap bf bo i xk xn xof xs xao xl xc ao0 n0 c0 L0 j v w → Below w.heap.size w w' → G7 lo g m cap bf bo i xk xn xof xs xao xl xc ao0 n0 c0 L0 j v w'
  | 0, _, _, _, h, _ => h
  | 1, _, _, _, h, _ => h
  | 2, _, _, _, h, _ => h
  | 3, _, _, _, h, _ => h
  | 4, _, _, _, h, _ => h
  | 5, _, _, _, h, _ => h
  | 6, _, _, _, h, _ => h
  | 7, _, _, _, h, _ => h
  | 8, _, _, _, ⟨be, h1, h2, h3⟩, hb => ⟨be, h1, h2, kept hb h3⟩
  | 9, _, _, _, ⟨be, h1, h2, h3⟩, hb => ⟨be, h1, h2, kept hb h3⟩
  | 10, _, _, _, ⟨be, bs, h1, h2, h3, h4⟩, hb => ⟨be, bs, h1, h2, kept hb h3, kept hb h4⟩
  | 11, _, _, _, h, _ => h
  | 12, _, _, _, h, _ => h
  | 13, _, _, _, h, _ => h
  | 14, _, _, _, h, _ => h
  | 15, _, _, _, h, _ => h
  | 16, _, _, _, h, _ => h
  | 17, _, _, _, h, _ => h
  | 18, _, _, _, ⟨be, gb, cb, cs, fr, h1, h2, h3, h4, h5⟩, hb => ⟨be, gb, cb, cs, fr, h1, h2, kept hb h3, kept hb h4, h5⟩
  | 19, _, _, _, h, _ => h
  | 20, _, _, _, h, _ => h
  | _ + 21, _, _, _, _, _ => trivial

theorem infoStmt2 : (Tryd.prog.info? 34).map (fun i => (i.zero, i.size, i.bytes)) = some (some (.agg #[.int .i64 0, .string ⟨#[]⟩, .slice none 0 0, .slice none 0 0, .slice none 0 0]), 5, 96) := by kernel_rfl

set_option maxRecDepth 100000 in
theorem append_none (w : World) (ty : TypeId) (b : Nat) (da : Option Addr) (c : Nat) :
    (Builtin.append_ #[32, 32] ty #[.slice (some ⟨b, 0, none⟩) 1 1, .slice da 0 c]).run Tryd.prog w = .ok (.slice (some ⟨b, 0, none⟩) 1 1) w := by
  obtain ⟨i0, hi, hz0, hz1, hz2⟩ := info_parts infoStmt2
  cases da <;> simp [Builtin.append_, Builtin.lenOf, Builtin.firstCells, run_underlying Tryd.underlying32, sizeOf, typeInfo, hi, loadCells, loadCellsFrom, storeCells, Result.andThen]

set_option maxRecDepth 100000 in
/-- the append of the old body to the new statement -/
theorem app_step {a : Act} {W W6 : World} {K : Act → World → Prop} {Q : Exit → Act → World → Prop} {g m cap bf bo i be bs : Nat} {xk xn : Int} {xof xs : ByteArray} {xao : Option Addr} {xl xc : Nat} {ao0 : Option Addr} {n0 c0 : Nat} {L0 : Nat → STree} {pos : String} {after : Array Edge}
    (e : a.tmps[41]?.getD undef = .slice (some ⟨bs, 0, none⟩) 1 1) (e2 : a.tmps[48]?.getD undef = .slice ao0 n0 c0) (h1 : W6.heap.size ≤ be) (h2 : W.heap[be]? = some (.cells #[.int .i64 xk, .int .i64 xn, .string xof, .string xs, .slice xao xl xc] 29)) (h3 : W.heap[bs]? = some (.cells #[.int .i64 6, .string ⟨#[]⟩, .slice (some ⟨be, 0, none⟩) 1 1, .slice none 0 0, .slice none 0 0] 34))
    (hS : SRow W 12 ao0 n0 L0) (hn : n0 ≤ 1000) (_ : Below W6.heap.size W6 W)
    (hK : ∀ v w', G7 W6.heap.size g m cap bf bo i xk xn xof xs xao xl xc ao0 n0 c0 L0 18 v w' → Below W.heap.size W w' → K (a.put (some 49) v) w') :
    Oper.wp Tryd.prog { dst := some 49, op := Op.call { callee := Callee.builtin Builtin.append, args := #[Operand.tmp 41, Operand.tmp 48], argTypes := #[32, 32] }, type := 32, pos := pos, after := after, guard := none } a W K Q := by
  have ev1 : a.eval (.tmp 41) = .slice (some ⟨bs, 0, none⟩) 1 1 := by rw [← e]; simp [Act.eval, Array.getD_eq_getD_getElem?]
  have ev2 : a.eval (.tmp 48) = .slice ao0 n0 c0 := by rw [← e2]; simp [Act.eval, Array.getD_eq_getD_getElem?]
  rcases n0 with _ | n
  · have hrun := append_none W 32 bs ao0 c0
    unfold Oper.wp
    simp only [execOp, resolve, invoke, builtin]
    simp [ev1, ev2, hrun, Result.andThen]
    exact hK _ _ ⟨be, bs, 1, _, _, rfl, h1, h2, h3, fun j u hu => by
      simp only [flatS, List.append_nil, sayL] at hu
      simpa using hu⟩ (Below.refl _ _)
  · obtain ⟨bl, off, rfl, hsrc⟩ := row_src hS (by omega)
    obtain ⟨i0, gi, gz0, gz1, gz2⟩ := info_parts infoStmt2
    have hst := step_append_grows (P := Tryd.prog) (ops := #[]) (o := { dst := some 49, op := Op.call { callee := Callee.builtin Builtin.append, args := #[Operand.tmp 41, Operand.tmp 48], argTypes := #[32, 32] }, type := 32, pos := pos, after := after, guard := none }) (a := a) (w := W) (K := K) (Q := Q) (E := True)
      rfl (.tmp 41) (.tmp 48) 32 rfl 34 i0 (.agg #[.int .i64 0, .string ⟨#[]⟩, .slice none 0 0, .slice none 0 0, .slice none 0 0]) 5 96 Tryd.underlying32 gi gz0 gz1 gz2 rfl (by decide) (some ⟨bs, 0, none⟩) 1 1 (sayL be) ev1 (fun h => by cases h) rfl
      (fun b eb j u hu => by injection eb with eb; subst eb; exact five_of h3 j u hu) ⟨bl, off, none⟩ (n + 1) c0 (flatS L0 (n + 1)) ev2 (flatS_length L0 (n + 1)) hsrc (flatS_one L0 (n + 1)) (by omega) (by unfold maxLen; omega) (by omega)
      (fun v' w' ho hg => by
        rcases ho.2 with ⟨_, h0⟩ | ⟨gb, cb, cur, hv, hB, hgb, _⟩
        · omega
        · have hbel : Below W.heap.size W w' := ⟨hg.os, hg.tape, hg.output, hg.size, fun k hk => hg.block k hk (by simp)⟩
          refine hK _ _ ⟨be, gb, cb, cur, _, by rw [hv, Nat.add_comm], h1, kept hbel h2, hgb, fun j u hu => ?_⟩ hbel
          have := ho.cells (g := gb) (by rw [hv]; rfl) j u hu
          rw [add_off, Nat.zero_add] at this
          simpa [World.cell?, hgb] using this)
    simpa [Region.wanted] using hst
end Go.Proofs.YtgjemlhnlpglbaaDoor.PGood
