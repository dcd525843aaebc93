/-
  RunOf, A GATE THAT IS NOTED: what its writes do to the run in memory; laws of append and copy that tell which block alone is turned.
  Conditions: each theorem's own hypotheses.
-/
import Derived.Test.YtmbbkabecipkaacDoorWhole39
namespace Go.Proofs.YtmbbkabecipkaacDoor.RNote
open RArmF Go.RowKit Tab Go.Proofs.YtmbbkabecipkaacDoor.Check Lists Go.Proofs.YtmbbkabecipkaacDoor.Read Img Mach Own Go.Proofs.YtmbbkabecipkaacDoor.Inv RunBad RunNot RInv RSlot REnds Take MRun RPart RTake RFinish

/-- 'append([]int(nil), l...)' as one step of a region that draws its order -/
theorem step_copied {ops : Array Oper} {o : Oper} {a : Act} {w : World} {K : Act → World → Prop} {Q : Exit → Act → World → Prop} {E : Prop} (hg : o.guard = none)
    (s x : Operand) (hop : o.op = Op.call { callee := Callee.builtin Builtin.append, args := #[s, x], argTypes := #[29, 29] }) (hs : a.eval s = .slice none 0 0)
    (da : Option Addr) (l : List Int) (n c : Nat) (hx : a.eval x = .slice da n c) (hn : n = l.length) (hl : l.length ≤ 1000) (src : 0 < l.length → ∃ ad, da = some ad ∧ ∀ j u, (ints l)[j]? = some u → w.cell? (ad.add j) = some u)
    (h : ∀ v' w', Fresh w w' v' l → K (a.put o.dst v') w') : if Region.wanted o (yielded ops a.tmps) = true then Oper.wp Tryd.prog o a w K Q else E := by
  have hw : Region.wanted o (yielded ops a.tmps) = true := by simp [Region.wanted, hg]
  rw [if_pos hw]
  exact wp_copied s x hop hs da l n c hx hn hl src h

/-- a copy into a block that is known: it alone is turned -/
theorem wpList_copy_block {P : Program} {w : World} {ops : Array Oper} {rest : List Oper} {o : Oper} {a : Act} {Q : Exit → Act → World → Prop} (hgd : o.guard = none) (d s : Operand) (dT sT : TypeId)
    (ho : o.op = .call { callee := .builtin .copy, args := #[d, s], argTypes := #[dT, sT] }) (elem : TypeId) (hu : P.underlying dT = some (.slice elem)) (hsz : (P.info? elem).map (·.size) = some 1)
    (dp sp : Option Addr) (dLen dCap sLen sCap : Nat) (hd : a.eval d = .slice dp dLen dCap) (hs : a.eval s = .slice sp sLen sCap)
    (g off : Nat) (cur : List Value) (t : TypeId) (hg : w.heap[g]? = some (.cells cur.toArray t (0, 0))) (cs : List Value) (hn : cs.length = Nat.min sLen dLen)
    (hpos : 0 < cs.length → dp = some ⟨g, off, none⟩ ∧ ∃ ad, sp = some ad ∧ ∀ j v, cs[j]? = some v → w.cell? (ad.add j) = some v)
    (hfit : off + cs.length ≤ cur.length) (h1 : ∀ v ∈ cs, v.oneCell' = true)
    (h : ∀ w', w'.heap[g]? = some (.cells (splice cur off cs).toArray t (0, 0)) → (∀ own : Nat → Tag, Moves own own w w' (own g)) → wpList P ops Q rest (a.put o.dst (goInt cs.length)) w') :
    wpList P ops Q (o :: rest) a w := by
  by_cases h0 : cs.length = 0
  · obtain rfl : cs = [] := List.eq_nil_of_length_eq_zero h0
    refine wpList_copy_nothing hgd d s dT sT ho elem hu hsz dp sp dLen dCap sLen sCap hd hs (by simpa using hn.symm) ?_
    exact h w (show _ = _ by simpa [splice] using hg) (fun own => Moves.refl own w _)
  · obtain ⟨rfl, ad, rfl, hsrc⟩ := hpos (by omega)
    refine wpList_copy_own hgd d s dT sT ho elem hu hsz g off dLen dCap ad sLen sCap hd hs cur.toArray t hg cs hn hsrc (by simpa using hfit) h1 ?_
    exact h _ (show _ = _ by simpa [splice] using setRow_heap w g _ _ t _ hg) (fun own => Moves.setRow own w g _ rfl)

section
variable {own own' : Nat → Tag} {w1 w w' : World} {bO : Nat} {vR vT vD vC : Value} {G : List (Fr × Nat × Value)} {data told : List Int} {C : List (Rec × Value)}

/-- the block of the room to come is turned -/
theorem moves8 (h : RInv own w1 w bO vR vT vD vC G data told C) (mv : Moves own own' w w' (8, G.length)) : RInv own' w1 w' bO vR vT vD vC G data told C :=
  ⟨h.base.moves mv (by simp), h.out.moves mv (by simp), h.dat.moves mv (by simp), h.row.moves mv (by simp), h.told.moves mv (by simp), h.calls.moves mv (by simp),
    h.rooms.moves mv (fun k hk => ⟨by simp, by simp; omega⟩), h.notes.moves mv (fun k _ => by simp)⟩

/-- behind the note: W: the room's block is laid; W5: the copy of its words; W6: behind the append -/
theorem noted_key {wr W W5 W6 : World} {q k i_ m : Nat} {l : List Int} {ROOM : List Value} {va : Value} {aC : Option Addr} {xC g' c' : Nat} {al : Option Addr}
    (h : RInv own w1 wr bO vR vT vD (.slice aC C.length xC) G data told C) (e0 : W.os = wr.os) (e1 : W.tape = wr.tape) (e2 : W.output = wr.output) (e3 : W.heap = (wr.alloc (.cells ROOM.toArray 73)).heap)
    (f5 : Fresh W W5 va l)
    (hg : (W5.alloc (.cells #[.int .i64 q, .int .i64 k, .int .i64 i_, va, .int .i64 m, .bool false, .int .i64 0] 76)).grownBy W6 (Value.slice aC C.length xC).ownBlock)
    (hn : (Value.slice (some ⟨g', 0, none⟩) (C.length + 1) c').ownBlock = (Value.slice aC C.length xC).ownBlock ∨ (Value.slice (some ⟨g', 0, none⟩) (C.length + 1) c').ownBlock = some (W5.alloc (.cells #[.int .i64 q, .int .i64 k, .int .i64 i_, va, .int .i64 m, .bool false, .int .i64 0] 76)).heap.size)
    (ho : W6.ownsRow 0 76 7 (.slice (some ⟨g', 0, none⟩) (C.length + 1) c') (C.length + 1) (flatC C ++ [.int .i64 q, .int .i64 k, .int .i64 i_, va, .int .i64 m, .bool false, .int .i64 0]))
    (hst : ∀ ad, al = some ad → own ad.block ≠ (1, 0) ∧ own ad.block ≠ (5, 0)) (src : 0 < l.length → ∃ ad : Addr, al = some ad ∧ ad.block < wr.heap.size ∧ ∀ j u, (ints l)[j]? = some u → wr.cell? (ad.add j) = some u) :
    ∃ own7, RInv own7 w1 (W6.setCell ⟨bO, 4, none⟩ (.slice (some ⟨g', 0, none⟩) (C.length + 1) c')) bO vR vT vD (.slice (some ⟨g', 0, none⟩) (C.length + 1) c') G data told (C ++ [({ by_ := q, part := k, entry := i_, args := l, deep := m, done := false, value := 0 }, va)]) ∧
      Block own7 (W6.setCell ⟨bO, 4, none⟩ (.slice (some ⟨g', 0, none⟩) (C.length + 1) c')) wr.heap.size ROOM.toArray 73 (8, G.length) ∧
      (0 < l.length → ∃ ad : Addr, al = some ad ∧ ∀ j u, (ints l)[j]? = some u → (W6.setCell ⟨bO, 4, none⟩ (.slice (some ⟨g', 0, none⟩) (C.length + 1) c')).cell? (ad.add j) = some u) := by
  have hWs : W.heap.size = wr.heap.size + 1 := by rw [e3]; simp
  have hbW : Below wr.heap.size wr W := ⟨e0, e1, e2, by omega, fun k hk => by rw [e3]; exact Below.heap_alloc _ _ _ hk⟩
  have mW : Moves own (also own wr.heap.size (8, G.length)) wr W (9, 9) := Moves.below hbW (fun k hk => by unfold also; rw [if_neg (by omega)]) _
  have hB : Block (also own wr.heap.size (8, G.length)) W wr.heap.size ROOM.toArray 73 (8, G.length) := ⟨by rw [e3]; exact heap_alloc_new _ _, by simp [also]⟩
  have hW := h.moves (n := 0) (m := 9) mW
  obtain ⟨own4, eo⟩ : ∃ o, o = also own wr.heap.size (8, G.length) := ⟨_, rfl⟩
  rw [← eo] at hB hW
  have m5 : Moves own4 (also own4 W.heap.size (7, C.length)) W W5 (9, 9) := Moves.below f5.below (fun k hk => by unfold also; rw [if_neg (by omega)]) _
  have hA5 := f5.owned own4 (7, C.length)
  have h5 := hW.moves (n := 0) (m := 9) m5
  have hB5 := hB.moves m5 (by simp)
  have m6 := Moves.alloc (also own4 W.heap.size (7, C.length)) W5 (.cells #[.int .i64 q, .int .i64 k, .int .i64 i_, va, .int .i64 m, .bool false, .int .i64 0] 76) (9, 9)
  have h6 := h5.moves (n := 0) (m := 9) m6
  have hB6 := hB5.moves m6 (by simp)
  have hA6 := hA5.moves m6 (by simp)
  have h7 := RInv.note_set (r := { by_ := q, part := k, entry := i_, args := l, deep := m, done := false, value := 0 }) (va := va) h6 hA6 hg hn ho
  have mg := Moves.grown (t := (5, 0)) h6.calls.tag hg
  have hr := h6.out.moves mg (by simp)
  have m2 := Moves.setCell (also (also own4 W.heap.size (7, C.length)) (W5.alloc (.cells #[.int .i64 q, .int .i64 k, .int .i64 i_, va, .int .i64 m, .bool false, .int .i64 0] 76)).heap.size (5, 0)) W6 bO 4 (.slice (some ⟨g', 0, none⟩) (C.length + 1) c') hr.tag
  refine ⟨_, h7, (hB6.moves mg (by simp)).moves m2 (by simp), fun hp => ?_⟩
  obtain ⟨ad, ea, hlt, hc⟩ := src hp
  refine ⟨ad, ea, fun j u hu => ?_⟩
  obtain ⟨t1, t5⟩ := hst ad ea
  have hb4 : own4 ad.block = own ad.block := by rw [eo]; unfold also; rw [if_neg (by omega)]
  have hb5 : also own4 W.heap.size (7, C.length) ad.block = own ad.block := by unfold also; rw [if_neg (by omega)]; exact hb4
  have s6 : ad.block < (W5.alloc (.cells #[.int .i64 q, .int .i64 k, .int .i64 i_, va, .int .i64 m, .bool false, .int .i64 0] 76)).heap.size := by have := f5.below.size; simp; omega
  have hb6 : also (also own4 W.heap.size (7, C.length)) (W5.alloc (.cells #[.int .i64 q, .int .i64 k, .int .i64 i_, va, .int .i64 m, .bool false, .int .i64 0] 76)).heap.size (5, 0) ad.block = own ad.block := by
    unfold also; rw [if_neg (by omega)]; exact hb5
  have x1 : (W6.setCell ⟨bO, 4, none⟩ (.slice (some ⟨g', 0, none⟩) (C.length + 1) c')).heap[ad.block]? = wr.heap[ad.block]? := by
    rw [m2.block ad.block (Nat.lt_of_lt_of_le s6 mg.size) (by rw [hb6]; exact t1), mg.block ad.block s6 (by rw [hb5]; exact t5), Below.heap_alloc _ _ _ (by have := f5.below.size; omega), f5.below.block ad.block (by omega), hbW.block ad.block hlt]
  exact (World.cell?_of_block (by rw [Loud.add_block]; exact x1)).trans (hc j u hu)
end
end Go.Proofs.YtmbbkabecipkaacDoor.RNote
