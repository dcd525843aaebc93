/-
  RunOf, A ROUND: what an instruction does: a Gate that goes through.
  Conditions: each theorem's own hypotheses.
-/
import Derived.Test.YtmbbkabecipkaacDoorWhole46
namespace Go.Proofs.YtmbbkabecipkaacDoor.RArmM
open RNote RArmF Go.RowKit Tab Go.Proofs.YtmbbkabecipkaacDoor.Check Lists Go.Proofs.YtmbbkabecipkaacDoor.Read Img Mach Own Go.Proofs.YtmbbkabecipkaacDoor.Inv RunBad RunNot RInv RSlot REnds Take MRun RPart RTake RFinish
set_option linter.unusedVariables false

theorem setCell_drewN (w : World) (n : Nat) (a : Addr) (v : Value) : (w.drewN n).setCell a v = (w.setCell a v).drewN n := rfl
attribute [local go_sem] setCell_drewN

set_option maxRecDepth 1000000 in
set_option maxHeartbeats 40000000 in
/-- Gate, that goes through, and is noted -/
theorem gate_noted {A : Array Value} {fuel : Int} {bM bR bO : Nat} {vR v19 v20 v21 v22 v23 v24 v25 v28 : Value} {w w1 wr : World} {own : Nat → Tag} {vT vD vC : Value} {G : List (Fr × Nat × Value)} {f : Fr} {b : Nat} {v : Value} {data told : List Int} {C : List (Rec × Value)} {R : Act → World → Prop} {K0 K2 : Act → World → Prop} {R0 : Ending → World → Prop} {r : Int × Int × St} {rm : List Fr} {bp bi gl cl_ : Nat} {gR cR m n : Nat} {al : Option Addr} {a_ b_ c_ : Int} (hs : Sl A fuel bM bR bO (.slice (some ⟨gR, 0, none⟩) m cR) (.pointer (some ⟨b, 0, none⟩)) (.pointer (some ⟨bp, 0, none⟩)) (.pointer (some ⟨bi, 0, none⟩)) v22 v23 (.slice al n cl_) v25 v28) (hbi : Block own wr bi #[.int .i64 12, .int .i64 a_, .int .i64 b_, .int .i64 c_] 27 (12, 0)) {q k i_ ta : Nat} (ha : a_ = k) (hbq : b_ = i_) (hq : wr.cell? ⟨b, 0, none⟩ = some (.int .i64 q)) {len cap bl off : Nat} (hM : wr.cell? ⟨bM, 0, none⟩ = some (.slice (some ⟨bl, off, none⟩) len cap)) (hlen : len ≤ 5) (hk : k < len) {b2 o2 el ec : Nat} (hE : wr.cell? ⟨bl, off + k * 4 + 1, none⟩ = some (.slice (some ⟨b2, o2, none⟩) el ec)) (hel : el ≤ 8) (hi_ : i_ < el) (hP0 : wr.cell? ⟨b2, o2 + i_ * 2, none⟩ = some (.int .i64 ta)) (hP : wr.cell? ⟨b2, o2 + i_ * 2 + 1, none⟩ = some (.int .i64 c_)) (hC : C.length < 100) (hbt : own b ≠ (1, 0) ∧ own b ≠ (5, 0)) (hst : ∀ ad, al = some ad → own ad.block ≠ (1, 0) ∧ own ad.block ≠ (5, 0)) {l : List Int} (hn : n = l.length) (hl4 : l.length ≤ 4) (hsrc : 0 < l.length → ∃ ad : Addr, al = some ad ∧ ad.block < wr.heap.size ∧ ∀ j u, (ints l)[j]? = some u → wr.cell? (ad.add j) = some u) (hm : m < 20) (hmG : m = G.length) (h : RInv own w1 wr bO (.slice (some ⟨gR, 0, none⟩) m cR) vT vD vC G data told C)
    (hR : ∀ A' own' W v' bg vC' va, Sl A' fuel bM bR bO v' (.pointer (some ⟨b, 0, none⟩)) (.pointer (some ⟨bp, 0, none⟩)) (.pointer (some ⟨bi, 0, none⟩)) v22 v23 (.slice al n cl_) (.slice none 0 0) (.pointer (some ⟨bg, 0, none⟩)) → RInv own' w1 W bO v' vT vD vC' (({ part := k, pc := ta, locals := pad l, words := [], noted := some C.length }, bg, .slice none 0 0) :: G) data told (C ++ [({ by_ := q, part := k, entry := i_, args := l, deep := m, done := false, value := 0 }, va)]) → R ⟨A', []⟩ W) :
    RInv.upto Tryd.prog 2 (RInv.behind 13 (RInv.inside (RInv.behind 1 (((Tryd.f15.body.map RInv.loops).getD []).getD 1 .skip)))) R (Exit.inBlock 3 (Exit.then K0 (Exit.inBlock 2 (Exit.then K2 (bodyPost Tryd.prog Tryd.f15 R0))))) ⟨A, []⟩ wr := by
  obtain ⟨u, rfl⟩ := fold hs
  have i0 := hbi.cell 0 (v := .int .i64 12) rfl
  have i1 := hbi.cell 1 (v := .int .i64 a_) rfl
  subst ha
  subst hbq
  have i2 := hbi.cell 2 (v := .int .i64 (i_ : Int)) rfl
  have i3 := hbi.cell 3 (v := .int .i64 c_) rfl
  have hbo : bO < wr.heap.size := h.out.lt
  have hbo'' : bO ≠ wr.heap.size := by omega
  have uc : ∀ (o : Obj) (j : Nat), (wr.alloc o).cell? ⟨bO, j, none⟩ = wr.cell? ⟨bO, j, none⟩ := fun o j => World.cell?_alloc_old wr o ⟨bO, j, none⟩ hbo''
  have hbil : bi ≠ wr.heap.size := Nat.ne_of_lt hbi.lt
  have hbml : bM ≠ wr.heap.size := Nat.ne_of_lt (World.block_lt_of_cell? wr _ hM)
  have ub : ∀ (o : Obj) (j : Nat), (wr.alloc o).cell? ⟨bi, j, none⟩ = wr.cell? ⟨bi, j, none⟩ := fun o j => World.cell?_alloc_old wr o ⟨bi, j, none⟩ hbil
  have um : ∀ (o : Obj) (j : Nat), (wr.alloc o).cell? ⟨bM, j, none⟩ = wr.cell? ⟨bM, j, none⟩ := fun o j => World.cell?_alloc_old wr o ⟨bM, j, none⟩ hbml
  have hlI : (len : Int) ≤ 5 := by omega
  have hkI : (k : Int) < len := by omega
  have hbll : bl ≠ wr.heap.size := Nat.ne_of_lt (World.block_lt_of_cell? wr _ hE)
  have ul : ∀ (o : Obj) (j : Nat), (wr.alloc o).cell? ⟨bl, j, none⟩ = wr.cell? ⟨bl, j, none⟩ := fun o j => World.cell?_alloc_old wr o ⟨bl, j, none⟩ hbll
  have heI : (el : Int) ≤ 8 := by omega
  have dk : decide (len ≤ k) = false := decide_eq_false (by omega)
  have hiI : (i_ : Int) < el := by omega
  have di : decide (el ≤ i_) = false := decide_eq_false (by omega)
  have hb2l : b2 ≠ wr.heap.size := Nat.ne_of_lt (World.block_lt_of_cell? wr _ hP)
  have ul2 : ∀ (o : Obj) (j : Nat), (wr.alloc o).cell? ⟨b2, j, none⟩ = wr.cell? ⟨b2, j, none⟩ := fun o j => World.cell?_alloc_old wr o ⟨b2, j, none⟩ hb2l
  obtain ⟨aC, xC, rfl⟩ := owned_form h.calls
  have c4 := h.out.cell 4 (v := .slice aC C.length xC) rfl
  obtain ⟨j3, hi3, hz30, hz31, hz32⟩ := info_parts info3
  have s1 : (Tryd.prog.info? 3).map (·.size) = some 1 := by rw [hi3]; simp [hz31]
  obtain ⟨i1_, gi, gz0, gz1, gz2⟩ := info_parts Noted.info76
  have n1 := World.new_ne wr _ hq
  have n2 := World.new_ne wr _ i1
  have n3 := World.new_ne wr _ i0
  have n4 := World.new_ne wr _ c4
  have neb : b ≠ bO := fun e => hbt.1 (by rw [e]; exact h.out.tag)
  have nei : bi ≠ bO := fun e => by have t1 := hbi.tag; rw [e, h.out.tag] at t1; cases t1
  have bel : ∀ W : World, W.os = wr.os → W.tape = wr.tape → W.output = wr.output → W.heap = (wr.alloc (.cells #[.int .i64 k, .int .i64 ta, .int .i64 0, .int .i64 0, .int .i64 0, .int .i64 0, .int .i64 0, .int .i64 0, .int .i64 0, .int .i64 0, .slice none 0 0, .int .i64 C.length] 73)).heap → Below wr.heap.size wr W := fun W e0 e1 e2 e3 => ⟨e0, e1, e2, by rw [e3]; simp, fun k hk => by rw [e3]; exact Below.heap_alloc _ _ _ hk⟩
  have sw : ∀ W W' : World, Below W.heap.size W W' → W.os = wr.os → W.tape = wr.tape → W.output = wr.output → W.heap = (wr.alloc (.cells #[.int .i64 k, .int .i64 ta, .int .i64 0, .int .i64 0, .int .i64 0, .int .i64 0, .int .i64 0, .int .i64 0, .int .i64 0, .int .i64 0, .slice none 0 0, .int .i64 C.length] 73)).heap → W'.cell? ⟨bO, 4, none⟩ = some (.slice aC C.length xC) ∧ W'.cell? ⟨b, 0, none⟩ = some (.int .i64 q) ∧ W'.cell? ⟨bi, 1, none⟩ = some (.int .i64 k) ∧ W'.cell? ⟨bi, 2, none⟩ = some (.int .i64 i_) := fun W W' hb' e0 e1 e2 e3 => by
    have hb := (bel W e0 e1 e2 e3).trans (hb'.mono (bel W e0 e1 e2 e3).size)
    exact ⟨(hb.cell (World.block_lt_of_cell? wr _ c4)).trans c4, (hb.cell (World.block_lt_of_cell? wr _ hq)).trans hq, (hb.cell (World.block_lt_of_cell? wr _ i1)).trans i1, (hb.cell (World.block_lt_of_cell? wr _ i2)).trans i2⟩
  have row6 : ∀ (W W5 : World) (va : Value), Fresh W W5 va l → W.os = wr.os → W.tape = wr.tape → W.output = wr.output → W.heap = (wr.alloc (.cells #[.int .i64 k, .int .i64 ta, .int .i64 0, .int .i64 0, .int .i64 0, .int .i64 0, .int .i64 0, .int .i64 0, .int .i64 0, .int .i64 0, .slice none 0 0, .int .i64 C.length] 73)).heap → (W5.alloc (.cells #[.int .i64 q, .int .i64 k, .int .i64 i_, va, .int .i64 m, .bool false, .int .i64 0] 76)).ownsRow 0 76 7 (.slice aC C.length xC) C.length (flatC C) := fun W W5 va f5 e0 e1 e2 e3 => by
    have hb := (bel W e0 e1 e2 e3).trans (f5.below.mono (bel W e0 e1 e2 e3).size)
    exact ((h.moves (n := 0) (m := 9) (Moves.below (own' := own) hb (fun _ _ => rfl) (9, 9))).moves (n := 0) (m := 9) (Moves.alloc own W5 (.cells #[.int .i64 q, .int .i64 k, .int .i64 i_, va, .int .i64 m, .bool false, .int .i64 0] 76) (9, 9))).calls.row
  have keep6 : ∀ (W W5 W6 : World) (va : Value), Fresh W W5 va l → W.os = wr.os → W.tape = wr.tape → W.output = wr.output → W.heap = (wr.alloc (.cells #[.int .i64 k, .int .i64 ta, .int .i64 0, .int .i64 0, .int .i64 0, .int .i64 0, .int .i64 0, .int .i64 0, .int .i64 0, .int .i64 0, .slice none 0 0, .int .i64 C.length] 73)).heap → (W5.alloc (.cells #[.int .i64 q, .int .i64 k, .int .i64 i_, va, .int .i64 m, .bool false, .int .i64 0] 76)).grownBy W6 (Value.slice aC C.length xC).ownBlock → (W6.cell? ⟨bO, 4, none⟩ = some (.slice aC C.length xC) ∧ W6.cell? ⟨b, 0, none⟩ = some (.int .i64 q) ∧ W6.cell? ⟨bi, 1, none⟩ = some (.int .i64 k) ∧ W6.cell? ⟨bi, 2, none⟩ = some (.int .i64 i_)) ∧ W6.frozen? ⟨bO, 4, none⟩ = false := fun W W5 W6 va f5 e0 e1 e2 e3 hg => by
    have hb := (bel W e0 e1 e2 e3).trans (f5.below.mono (bel W e0 e1 e2 e3).size)
    have m5 := Moves.below (own' := own) hb (fun _ _ => rfl) (9, 9)
    have m6 := Moves.alloc own W5 (.cells #[.int .i64 q, .int .i64 k, .int .i64 i_, va, .int .i64 m, .bool false, .int .i64 0] 76) (9, 9)
    have h6 := (h.moves (n := 0) (m := 9) m5).moves (n := 0) (m := 9) m6
    have mg := Moves.grown (t := (5, 0)) h6.calls.tag hg
    have hO := h6.out.moves mg (by simp)
    have hI := ((hbi.moves m5 (by simp)).moves m6 (by simp)).moves mg (by simp)
    have hbl := World.block_lt_of_cell? wr _ hq
    have x1 : W6.heap[b]? = wr.heap[b]? := by
      rw [mg.block b (by have := hb.size; simp; exact Nat.lt_succ_of_lt (Nat.lt_of_lt_of_le hbl this)) hbt.2, Below.heap_alloc _ _ _ (Nat.lt_of_lt_of_le hbl hb.size), hb.block b hbl]
    exact ⟨⟨hO.cell 4 rfl, (World.cell?_of_block (w := wr) (a := ⟨b, 0, none⟩) x1).trans hq, hI.cell 1 rfl, hI.cell 2 rfl⟩, hO.frozen 4⟩
  have src : ∀ W : World, W.os = wr.os → W.tape = wr.tape → W.output = wr.output → W.heap = (wr.alloc (.cells #[.int .i64 k, .int .i64 ta, .int .i64 0, .int .i64 0, .int .i64 0, .int .i64 0, .int .i64 0, .int .i64 0, .int .i64 0, .int .i64 0, .slice none 0 0, .int .i64 C.length] 73)).heap → 0 < l.length → ∃ ad, al = some ad ∧ ∀ j u, (ints l)[j]? = some u → W.cell? (ad.add j) = some u := fun W e0 e1 e2 e3 hp => by
    obtain ⟨ad, e, hlt, hc⟩ := hsrc hp
    exact ⟨ad, e, fun j u hu => (World.cell?_of_block (by rw [Loud.add_block]; exact (bel W e0 e1 e2 e3).block _ hlt)).trans (hc j u hu)⟩
  have key : ∀ (W W5 W6 : World) (va : Value) (g' c' : Nat), Fresh W W5 va l → W.os = wr.os → W.tape = wr.tape → W.output = wr.output → W.heap = (wr.alloc (.cells #[.int .i64 k, .int .i64 ta, .int .i64 0, .int .i64 0, .int .i64 0, .int .i64 0, .int .i64 0, .int .i64 0, .int .i64 0, .int .i64 0, .slice none 0 0, .int .i64 C.length] 73)).heap → (W5.alloc (.cells #[.int .i64 q, .int .i64 k, .int .i64 i_, va, .int .i64 m, .bool false, .int .i64 0] 76)).grownBy W6 (Value.slice aC C.length xC).ownBlock → ((Value.slice (some ⟨g', 0, none⟩) (C.length + 1) c').ownBlock = (Value.slice aC C.length xC).ownBlock ∨ (Value.slice (some ⟨g', 0, none⟩) (C.length + 1) c').ownBlock = some (W5.alloc (.cells #[.int .i64 q, .int .i64 k, .int .i64 i_, va, .int .i64 m, .bool false, .int .i64 0] 76)).heap.size) → W6.ownsRow 0 76 7 (.slice (some ⟨g', 0, none⟩) (C.length + 1) c') (C.length + 1) (flatC C ++ [.int .i64 q, .int .i64 k, .int .i64 i_, va, .int .i64 m, .bool false, .int .i64 0]) →
      ∃ own7, RInv own7 w1 (W6.setCell ⟨bO, 4, none⟩ (.slice (some ⟨g', 0, none⟩) (C.length + 1) c')) bO (.slice (some ⟨gR, 0, none⟩) m cR) vT vD (.slice (some ⟨g', 0, none⟩) (C.length + 1) c') G data told (C ++ [({ by_ := q, part := k, entry := i_, args := l, deep := m, done := false, value := 0 }, va)]) ∧
        Block own7 (W6.setCell ⟨bO, 4, none⟩ (.slice (some ⟨g', 0, none⟩) (C.length + 1) c')) wr.heap.size #[.int .i64 k, .int .i64 ta, .int .i64 0, .int .i64 0, .int .i64 0, .int .i64 0, .int .i64 0, .int .i64 0, .int .i64 0, .int .i64 0, .slice none 0 0, .int .i64 C.length] 73 (8, G.length) ∧
        (0 < l.length → ∃ ad : Addr, al = some ad ∧ ∀ j u, (ints l)[j]? = some u → (W6.setCell ⟨bO, 4, none⟩ (.slice (some ⟨g', 0, none⟩) (C.length + 1) c')).cell? (ad.add j) = some u) :=
    fun W W5 W6 va g' c' f5 e0 e1 e2 e3 hg hn' ho => noted_key (ROOM := [.int .i64 k, .int .i64 ta, .int .i64 0, .int .i64 0, .int .i64 0, .int .i64 0, .int .i64 0, .int .i64 0, .int .i64 0, .int .i64 0, .slice none 0 0, .int .i64 C.length]) h e0 e1 e2 e3 f5 hg hn' ho hst hsrc
  have fin1 : ∀ (W7 W8 : World) (own7 : Nat → Tag) (vC' va : Value), RInv own7 w1 W7 bO (.slice (some ⟨gR, 0, none⟩) m cR) vT vD vC' G data told (C ++ [({ by_ := q, part := k, entry := i_, args := l, deep := m, done := false, value := 0 }, va)]) → Block own7 W7 wr.heap.size #[.int .i64 k, .int .i64 ta, .int .i64 0, .int .i64 0, .int .i64 0, .int .i64 0, .int .i64 0, .int .i64 0, .int .i64 0, .int .i64 0, .slice none 0 0, .int .i64 C.length] 73 (8, G.length) → W8.heap[wr.heap.size]? = some (.cells (splice [.int .i64 k, .int .i64 ta, .int .i64 0, .int .i64 0, .int .i64 0, .int .i64 0, .int .i64 0, .int .i64 0, .int .i64 0, .int .i64 0, .slice none 0 0, .int .i64 C.length] 2 (ints l)).toArray 73 (0, 0)) → (∀ o : Nat → Tag, Moves o o W7 W8 (o wr.heap.size)) →
      RInv own7 w1 W8 bO (.slice (some ⟨gR, 0, none⟩) m cR) vT vD vC' G data told (C ++ [({ by_ := q, part := k, entry := i_, args := l, deep := m, done := false, value := 0 }, va)]) ∧ Block own7 W8 wr.heap.size (frCells { part := k, pc := ta, locals := pad l, words := [], noted := some C.length } (.slice none 0 0)).toArray 73 (8, G.length) := fun W7 W8 own7 vC' va h7 hB hh mv => by
    have m8 := mv own7
    rw [hB.tag] at m8
    rw [show splice [.int .i64 k, .int .i64 ta, .int .i64 0, .int .i64 0, .int .i64 0, .int .i64 0, .int .i64 0, .int .i64 0, .int .i64 0, .int .i64 0, .slice none 0 0, .int .i64 C.length] 2 (ints l) = frCells { part := k, pc := ta, locals := pad l, words := [], noted := some C.length } (.slice none 0 0) from splice_pad k ta (some C.length) l hl4] at hh
    exact ⟨moves8 h7 m8, hh, hB.tag⟩
  have rowp : ∀ (W7 W8 : World) (own7 : Nat → Tag) (vC' va : Value), RInv own7 w1 W7 bO (.slice (some ⟨gR, 0, none⟩) m cR) vT vD vC' G data told (C ++ [({ by_ := q, part := k, entry := i_, args := l, deep := m, done := false, value := 0 }, va)]) → Block own7 W7 wr.heap.size #[.int .i64 k, .int .i64 ta, .int .i64 0, .int .i64 0, .int .i64 0, .int .i64 0, .int .i64 0, .int .i64 0, .int .i64 0, .int .i64 0, .slice none 0 0, .int .i64 C.length] 73 (8, G.length) → W8.heap[wr.heap.size]? = some (.cells (splice [.int .i64 k, .int .i64 ta, .int .i64 0, .int .i64 0, .int .i64 0, .int .i64 0, .int .i64 0, .int .i64 0, .int .i64 0, .int .i64 0, .slice none 0 0, .int .i64 C.length] 2 (ints l)).toArray 73 (0, 0)) → (∀ o : Nat → Tag, Moves o o W7 W8 (o wr.heap.size)) → (W8.alloc (.cells #[.pointer (some ⟨wr.heap.size, 0, none⟩)] 70)).ownsRow 0 70 1 (.slice (some ⟨gR, 0, none⟩) m cR) m (ptrs G) := fun W7 W8 own7 vC' va h7 hB hh mv => by
    have h8 := (fin1 W7 W8 own7 vC' va h7 hB hh mv).1
    have := (h8.moves (n := 0) (m := 9) (Moves.alloc own7 W8 (.cells #[.pointer (some ⟨wr.heap.size, 0, none⟩)] 70) (9, 9))).row.row
    rwa [← hmG] at this
  have fin2 : ∀ (A' : Array Value) (W7 W8 W9 : World) (own7 : Nat → Tag) (vC' va : Value) (g' c' : Nat), RInv own7 w1 W7 bO (.slice (some ⟨gR, 0, none⟩) m cR) vT vD vC' G data told (C ++ [({ by_ := q, part := k, entry := i_, args := l, deep := m, done := false, value := 0 }, va)]) → Block own7 W7 wr.heap.size #[.int .i64 k, .int .i64 ta, .int .i64 0, .int .i64 0, .int .i64 0, .int .i64 0, .int .i64 0, .int .i64 0, .int .i64 0, .int .i64 0, .slice none 0 0, .int .i64 C.length] 73 (8, G.length) → W8.heap[wr.heap.size]? = some (.cells (splice [.int .i64 k, .int .i64 ta, .int .i64 0, .int .i64 0, .int .i64 0, .int .i64 0, .int .i64 0, .int .i64 0, .int .i64 0, .int .i64 0, .slice none 0 0, .int .i64 C.length] 2 (ints l)).toArray 73 (0, 0)) → (∀ o : Nat → Tag, Moves o o W7 W8 (o wr.heap.size)) →
      Sl A' fuel bM bR bO (.slice (some ⟨g', 0, none⟩) (m + 1) c') (.pointer (some ⟨b, 0, none⟩)) (.pointer (some ⟨bp, 0, none⟩)) (.pointer (some ⟨bi, 0, none⟩)) v22 v23 (.slice al n cl_) (.slice none 0 0) (.pointer (some ⟨wr.heap.size, 0, none⟩)) → (W8.alloc (.cells #[.pointer (some ⟨wr.heap.size, 0, none⟩)] 70)).grownBy W9 (Value.slice (some ⟨gR, 0, none⟩) m cR).ownBlock → ((Value.slice (some ⟨g', 0, none⟩) (m + 1) c').ownBlock = (Value.slice (some ⟨gR, 0, none⟩) m cR).ownBlock ∨ (Value.slice (some ⟨g', 0, none⟩) (m + 1) c').ownBlock = some (W8.alloc (.cells #[.pointer (some ⟨wr.heap.size, 0, none⟩)] 70)).heap.size) → W9.ownsRow 0 70 1 (.slice (some ⟨g', 0, none⟩) (m + 1) c') (m + 1) (ptrs G ++ [.pointer (some ⟨wr.heap.size, 0, none⟩)]) → R ⟨A', []⟩ W9 := by
    intro A' W7 W8 W9 own7 vC' va g' c' h7 hB hh mv hs' hg hn' ho
    obtain ⟨h8, hB8⟩ := fin1 W7 W8 own7 vC' va h7 hB hh mv
    have m9 := Moves.alloc own7 W8 (.cells #[.pointer (some ⟨wr.heap.size, 0, none⟩)] 70) (9, 9)
    rw [hmG] at hg hn' ho h8
    have h9 := h8.moves (n := 0) (m := 9) m9
    have hp := h9.push (hB8.moves m9 (by simp)) rfl (by simp [pad]) hg hn' ho
    rw [← hmG] at hp
    exact hR A' _ W9 _ wr.heap.size vC' va hs' hp
  obtain ⟨nC, eC⟩ : ∃ n, n = C.length := ⟨_, rfl⟩
  rw [← eC] at c4 sw row6 keep6 src key fin1 rowp fin2
  have hnC : (nC : Int) < 100 := by omega
  have hnI : (n : Int) ≤ 4 := by omega
  have HNL : Hid (n = l.length) := hn
  have HL1 : Hid (l.length ≤ 1000) := (by omega : l.length ≤ 1000)
  have HL4 : Hid (l.length ≤ 4) := hl4
  have SW : Hid _ := sw
  have SS : Hid (∀ (W : World) (v : Value), (W.cell? ⟨b, 0, none⟩ = some (.int .i64 q) ∧ W.cell? ⟨bi, 1, none⟩ = some (.int .i64 k) ∧ W.cell? ⟨bi, 2, none⟩ = some (.int .i64 i_)) → (W.setCell ⟨bO, 4, none⟩ v).cell? ⟨b, 0, none⟩ = some (.int .i64 q) ∧ (W.setCell ⟨bO, 4, none⟩ v).cell? ⟨bi, 1, none⟩ = some (.int .i64 k) ∧ (W.setCell ⟨bO, 4, none⟩ v).cell? ⟨bi, 2, none⟩ = some (.int .i64 i_)) := fun W v ⟨x1, x2, x3⟩ => ⟨(World.cell?_setCell_other _ _ _ _ (fun e => neb (congrArg Addr.block e).symm)).trans x1, (World.cell?_setCell_other _ _ _ _ (fun e => nei (congrArg Addr.block e).symm)).trans x2, (World.cell?_setCell_other _ _ _ _ (fun e => nei (congrArg Addr.block e).symm)).trans x3⟩
  have ROW6 : Hid _ := row6
  have KEEP6 : Hid _ := keep6
  have SRC : Hid _ := src
  have KEY : Hid _ := key
  have NEW6 : Hid (∀ (W5 : World) (va : Value), ∀ j u, ([.int .i64 q, .int .i64 k, .int .i64 i_, va, .int .i64 m, .bool false, .int .i64 0] : List Value)[j]? = some u → (W5.alloc (.cells #[.int .i64 q, .int .i64 k, .int .i64 i_, va, .int .i64 m, .bool false, .int .i64 0] 76)).cell? ((⟨W5.heap.size, 0, none⟩ : Addr).add j) = some u) := fun W5 va => Enter.twelve_new (w := W5) (L := [.int .i64 q, .int .i64 k, .int .i64 i_, va, .int .i64 m, .bool false, .int .i64 0]) (t := 76)
  have ONE6 : Hid (∀ (a' : Option Addr) (x c' : Nat), ∀ u ∈ ([.int .i64 q, .int .i64 k, .int .i64 i_, .slice a' x c', .int .i64 m, .bool false, .int .i64 0] : List Value), u.oneCell' = true) := fun a' x c' => by simp [Value.oneCell']
  have ROWP : Hid _ := rowp
  have FIN2 : Hid _ := fin2
  have hmI : (m : Int) < 20 := by omega
  have HN4 : Hid (n ≤ 4) := (by omega : n ≤ 4)
  have NEWP : Hid (∀ w5 : World, ∀ j u, ([.pointer (some ⟨wr.heap.size, 0, none⟩)] : List Value)[j]? = some u → (w5.alloc (.cells #[.pointer (some ⟨wr.heap.size, 0, none⟩)] 70)).cell? ((⟨w5.heap.size, 0, none⟩ : Addr).add j) = some u) := fun w5 => Enter.twelve_new (w := w5) (L := [.pointer (some ⟨wr.heap.size, 0, none⟩)]) (t := 70)
  obtain ⟨j0, hi, hz0, hz1, hz2⟩ := info_parts info70
  clear fin1 rowp fin2 hmG hm hR
  clear hlen hk hel hi_ hC eC bel sw row6 keep6 src key hst hsrc hbt hn hl4 hs hbi h
  conv => arg 3; whnf
  refine upto_seq ?_
  go_wp2
  refine upto_seq ?_
  go_wp2
  go_region_held3 (fun w' => w'.cell? ⟨b, 0, none⟩ = some (.int .i64 q) ∧ w'.cell? ⟨bi, 1, none⟩ = some (.int .i64 k) ∧ w'.cell? ⟨bi, 0, none⟩ = some (.int .i64 12)) (go_keep) (fail)
  all_goals
    go_wp2
    go_quiet (fail)
    go_wp2
    go_region_held3 (fun w' => w'.cell? ⟨bi, 1, none⟩ = some (.int .i64 k) ∧ w'.cell? ⟨bi, 2, none⟩ = some (.int .i64 i_) ∧ w'.cell? ⟨bM, 0, none⟩ = some (.slice (some ⟨bl, off, none⟩) len cap) ∧ w'.cell? ⟨bl, off + k * 4 + 1, none⟩ = some (.slice (some ⟨b2, o2, none⟩) el ec) ∧ w'.cell? ⟨b2, o2 + i_ * 2, none⟩ = some (.int .i64 ta)) (go_keep) (fail)
    all_goals
      go_wp2
      refine wp_region_held_drew (S := fun w' => w'.cell? ⟨b, 0, none⟩ = some (.int .i64 q) ∧ w'.cell? ⟨bi, 1, none⟩ = some (.int .i64 k) ∧ w'.cell? ⟨bi, 2, none⟩ = some (.int .i64 i_)) (by kernel_rfl) ?_ (fun hHeld => ?_)
      · (try dsimp only)
        first
          | (refine (SW.out _ _ (Below.refl _ _) ?_ ?_ ?_ ?_).2 <;> rfl)
          | (refine (SW.out _ _ F5.out.below ?_ ?_ ?_ ?_).2 <;> rfl)
          | (refine (SW.out _ _ (F5.out.below.alloc F5.out.below.size _) ?_ ?_ ?_ ?_).2 <;> rfl)
          | (with_reducible exact S6.2)
          | (with_reducible exact SS.out _ _ S6.2)
      refine wpAnyH_take (i := 0) (oi := { dst := some 424, op := _, type := _, pos := _, after := _, guard := _ }) (v := ?_) rfl (by kernel_rfl) (by kernel_rfl) (by kernel_rfl) (fun _ _ _ h => h) (Or.inl ⟨by rfl, ?_⟩) (by assumption) ?_
      rotate_left
      · (intro w hSw; (try dsimp only at hSw); go_simp; try (with_reducible rfl))
      try simp only [Act.put, List.setIfInBounds_toArray, List.set_cons_zero, List.set_cons_succ]
      refine wpAnyH_take (i := 2) (oi := { dst := some 426, op := _, type := _, pos := _, after := _, guard := _ }) (v := ?_) rfl (by kernel_rfl) (by kernel_rfl) (by kernel_rfl) (fun _ _ _ h => h) (Or.inl ⟨by rfl, ?_⟩) (by assumption) ?_
      rotate_left
      · (intro w hSw; (try dsimp only at hSw); go_simp; try (with_reducible rfl))
      try simp only [Act.put, List.setIfInBounds_toArray, List.set_cons_zero, List.set_cons_succ]
      refine wpAnyH_take (i := 3) (oi := { dst := some 427, op := _, type := _, pos := _, after := _, guard := _ }) (v := ?_) rfl (by kernel_rfl) (by kernel_rfl) (by kernel_rfl) (fun _ _ _ h => h) (Or.inl ⟨by rfl, ?_⟩) (by assumption) ?_
      rotate_left
      · (intro w hSw; (try dsimp only at hSw); go_simp; try (with_reducible rfl))
      try simp only [Act.put, List.setIfInBounds_toArray, List.set_cons_zero, List.set_cons_succ]
      refine wpAnyH_take (i := 4) (oi := { dst := some 428, op := _, type := _, pos := _, after := _, guard := _ }) (v := ?_) rfl (by kernel_rfl) (by kernel_rfl) (by kernel_rfl) (fun _ _ _ h => h) (Or.inl ⟨by rfl, ?_⟩) (by assumption) ?_
      rotate_left
      · (intro w hSw; (try dsimp only at hSw); go_simp; try (with_reducible rfl))
      try simp only [Act.put, List.setIfInBounds_toArray, List.set_cons_zero, List.set_cons_succ]
      refine wpAnyH_take (i := 5) (oi := { dst := some 429, op := _, type := _, pos := _, after := _, guard := _ }) (v := ?_) rfl (by kernel_rfl) (by kernel_rfl) (by kernel_rfl) (fun _ _ _ h => h) (Or.inl ⟨by rfl, ?_⟩) (by assumption) ?_
      rotate_left
      · (intro w hSw; (try dsimp only at hSw); go_simp; try (with_reducible rfl))
      try simp only [Act.put, List.setIfInBounds_toArray, List.set_cons_zero, List.set_cons_succ]
      refine wpAnyH_take (i := 6) (oi := { dst := some 430, op := _, type := _, pos := _, after := _, guard := _ }) (v := ?_) rfl (by kernel_rfl) (by kernel_rfl) (by kernel_rfl) (fun _ _ _ h => h) (Or.inl ⟨by rfl, ?_⟩) (by assumption) ?_
      rotate_left
      · (intro w hSw; (try dsimp only at hSw); go_simp; try (with_reducible rfl))
      try simp only [Act.put, List.setIfInBounds_toArray, List.set_cons_zero, List.set_cons_succ]
      refine wpAnyH_take (i := 7) (oi := { dst := some 431, op := _, type := _, pos := _, after := _, guard := _ }) (v := ?_) rfl (by kernel_rfl) (by kernel_rfl) (by kernel_rfl) (fun _ _ _ h => h) (Or.inl ⟨by rfl, ?_⟩) (by assumption) ?_
      rotate_left
      · (intro w hSw; (try dsimp only at hSw); go_simp; try (with_reducible rfl))
      try simp only [Act.put, List.setIfInBounds_toArray, List.set_cons_zero, List.set_cons_succ]
      refine wpAnyH_take (i := 8) (oi := { dst := some 432, op := _, type := _, pos := _, after := _, guard := _ }) (v := ?_) rfl (by kernel_rfl) (by kernel_rfl) (by kernel_rfl) (fun _ _ _ h => h) (Or.inl ⟨by rfl, ?_⟩) (by assumption) ?_
      rotate_left
      · (intro w hSw; (try dsimp only at hSw); go_simp; try (with_reducible rfl))
      try simp only [Act.put, List.setIfInBounds_toArray, List.set_cons_zero, List.set_cons_succ]
      refine wpAnyH_take (i := 9) (oi := { dst := some 433, op := _, type := _, pos := _, after := _, guard := _ }) (v := ?_) rfl (by kernel_rfl) (by kernel_rfl) (by kernel_rfl) (fun _ _ _ h => h) (Or.inl ⟨by rfl, ?_⟩) (by assumption) ?_
      rotate_left
      · (intro w hSw; (try dsimp only at hSw); go_simp; try (with_reducible rfl))
      try simp only [Act.put, List.setIfInBounds_toArray, List.set_cons_zero, List.set_cons_succ]
      refine wpAnyH_take (i := 10) (oi := { dst := some 434, op := _, type := _, pos := _, after := _, guard := _ }) (v := ?_) rfl (by kernel_rfl) (by kernel_rfl) (by kernel_rfl) (fun _ _ _ h => h) (Or.inl ⟨by rfl, ?_⟩) (by assumption) ?_
      rotate_left
      · (intro w hSw; (try dsimp only at hSw); go_simp; try (with_reducible rfl))
      try simp only [Act.put, List.setIfInBounds_toArray, List.set_cons_zero, List.set_cons_succ]
      refine wpAnyH_take (i := 12) (oi := { dst := some 436, op := _, type := _, pos := _, after := _, guard := _ }) (v := ?_) rfl (by kernel_rfl) (by kernel_rfl) (by kernel_rfl) (fun _ _ _ h => h) (Or.inl ⟨by rfl, ?_⟩) (by assumption) ?_
      rotate_left
      · (intro w hSw; (try dsimp only at hSw); go_simp; try (with_reducible rfl))
      try simp only [Act.put, List.setIfInBounds_toArray, List.set_cons_zero, List.set_cons_succ]
      refine wpAnyH_take (i := 13) (oi := { dst := some 437, op := _, type := _, pos := _, after := _, guard := _ }) (v := ?_) rfl (by kernel_rfl) (by kernel_rfl) (by kernel_rfl) (fun _ _ _ h => h) (Or.inl ⟨by rfl, ?_⟩) (by assumption) ?_
      rotate_left
      · (intro w hSw; (try dsimp only at hSw); go_simp; try (with_reducible rfl))
      try simp only [Act.put, List.setIfInBounds_toArray, List.set_cons_zero, List.set_cons_succ]
      refine wpAnyH_ready (rs := [1, 11]) (by kernel_rfl) (by simp) ?_
      refine AllReadyH.cons (o := { dst := some 425, op := _, type := _, pos := _, after := _, guard := _ }) rfl (fun K hK => ?_) (AllReadyH.cons (o := { dst := some 435, op := _, type := _, pos := _, after := _, guard := _ }) rfl (fun K hK => ?_) AllReadyH.nil)
      · go_simp
        refine hK.out _ _ ?_ (fun hHeld => ?_)
        · (try dsimp only)
          first
            | (refine (SW.out _ _ (Below.refl _ _) ?_ ?_ ?_ ?_).2 <;> rfl)
            | (refine (SW.out _ _ F5.out.below ?_ ?_ ?_ ?_).2 <;> rfl)
            | (refine (SW.out _ _ (F5.out.below.alloc F5.out.below.size _) ?_ ?_ ?_ ?_).2 <;> rfl)
            | (with_reducible exact S6.2)
            | (with_reducible exact SS.out _ _ S6.2)
        clear hK K
        try simp only [Act.put, List.setIfInBounds_toArray, List.set_cons_zero, List.set_cons_succ]
        refine wpAnyH_ready (rs := [11]) (by kernel_rfl) (by simp) ?_
        refine AllReadyH.cons (o := { dst := some 435, op := _, type := _, pos := _, after := _, guard := _ }) rfl (fun K hK => ?_) AllReadyH.nil
        (refine step_copied rfl _ (.tmp 434) rfl rfl al l n cl_ rfl HNL.out HL1.out (by exact fun hp => SRC.out _ rfl rfl rfl rfl hp) ?_; intro va W5 f5; obtain ⟨a5, c5, rfl⟩ := f5.form; have d4 := (SW.out _ _ f5.below rfl rfl rfl rfl).1; have d5 : ∀ o, (W5.alloc o).cell? ⟨bO, 4, none⟩ = some (.slice aC nC xC) := fun o => (World.cell?_alloc_past o _ _ (World.block_lt_of_cell? W5 _ d4)).trans d4; have F5 : Hid _ := f5; clear f5)
        refine hK.out _ _ ?_ (fun hHeld => ?_)
        · (try dsimp only)
          first
            | (refine (SW.out _ _ (Below.refl _ _) ?_ ?_ ?_ ?_).2 <;> rfl)
            | (refine (SW.out _ _ F5.out.below ?_ ?_ ?_ ?_).2 <;> rfl)
            | (refine (SW.out _ _ (F5.out.below.alloc F5.out.below.size _) ?_ ?_ ?_ ?_).2 <;> rfl)
            | (with_reducible exact S6.2)
            | (with_reducible exact SS.out _ _ S6.2)
        clear hK K
        try simp only [Act.put, List.setIfInBounds_toArray, List.set_cons_zero, List.set_cons_succ]
        refine wpAnyH_take (i := 14) (oi := { dst := some 438, op := _, type := _, pos := _, after := _, guard := _ }) (v := ?_) rfl (by kernel_rfl) (by kernel_rfl) (by kernel_rfl) (fun _ _ _ h => h) (Or.inl ⟨by rfl, ?_⟩) (by assumption) ?_
        rotate_left
        · (intro w hSw; (try dsimp only at hSw); go_simp; try (with_reducible rfl))
        try simp only [Act.put, List.setIfInBounds_toArray, List.set_cons_zero, List.set_cons_succ]
        refine wpAnyH_ready (rs := [15]) (by kernel_rfl) (by simp) ?_
        refine AllReadyH.cons (o := { dst := some 439, op := _, type := _, pos := _, after := _, guard := _ }) rfl (fun K hK => ?_) AllReadyH.nil
        go_simp
        refine hK.out _ _ ?_ (fun hHeld => ?_)
        · (try dsimp only)
          first
            | (refine (SW.out _ _ (Below.refl _ _) ?_ ?_ ?_ ?_).2 <;> rfl)
            | (refine (SW.out _ _ F5.out.below ?_ ?_ ?_ ?_).2 <;> rfl)
            | (refine (SW.out _ _ (F5.out.below.alloc F5.out.below.size _) ?_ ?_ ?_ ?_).2 <;> rfl)
            | (with_reducible exact S6.2)
            | (with_reducible exact SS.out _ _ S6.2)
        clear hK K
        try simp only [Act.put, List.setIfInBounds_toArray, List.set_cons_zero, List.set_cons_succ]
        refine wpAnyH_ready (rs := [16]) (by kernel_rfl) (by simp) ?_
        refine AllReadyH.cons (o := { dst := some 440, op := _, type := _, pos := _, after := _, guard := _ }) rfl (fun K hK => ?_) AllReadyH.nil
        (refine step_append_fresh (by rfl) (.tmp 425) (.tmp 439) 39 (by rfl) 0 76 i1_ _ 7 72 Tryd.underlying39 gi gz0 gz1 gz2 (by rfl) (by decide) (.slice aC nC xC) nC (flatC C) (by rfl) (by exact ROW6.out _ W5 _ F5.out rfl rfl rfl rfl) ⟨W5.heap.size, 0, none⟩ 1 1 (by decide) [.int .i64 q, .int .i64 k, .int .i64 i_, .slice a5 l.length c5, .int .i64 m, .bool false, .int .i64 0] (by rfl) (by rfl) (NEW6.out W5 _) (ONE6.out _ _ _) (by unfold maxLen; omega) (by omega) (Nat.zero_le _) ?_; intro g' c' W6 ho hg hn'; obtain ⟨S6, z6⟩ := KEEP6.out _ W5 W6 _ F5.out rfl rfl rfl rfl hg; have d6 := S6.1; have HG : Hid _ := hg; have HN : Hid _ := hn'; have HO : Hid _ := ho; clear ho hg hn')
        refine hK.out _ _ ?_ (fun hHeld => ?_)
        · (try dsimp only)
          first
            | (refine (SW.out _ _ (Below.refl _ _) ?_ ?_ ?_ ?_).2 <;> rfl)
            | (refine (SW.out _ _ F5.out.below ?_ ?_ ?_ ?_).2 <;> rfl)
            | (refine (SW.out _ _ (F5.out.below.alloc F5.out.below.size _) ?_ ?_ ?_ ?_).2 <;> rfl)
            | (with_reducible exact S6.2)
            | (with_reducible exact SS.out _ _ S6.2)
        clear hK K
        try simp only [Act.put, List.setIfInBounds_toArray, List.set_cons_zero, List.set_cons_succ]
        refine wpAnyH_take (i := 17) (oi := { dst := some 441, op := _, type := _, pos := _, after := _, guard := _ }) (v := ?_) rfl (by kernel_rfl) (by kernel_rfl) (by kernel_rfl) (fun _ _ _ h => h) (Or.inl ⟨by rfl, ?_⟩) (by assumption) ?_
        rotate_left
        · (intro w hSw; (try dsimp only at hSw); go_simp; try (with_reducible rfl))
        try simp only [Act.put, List.setIfInBounds_toArray, List.set_cons_zero, List.set_cons_succ]
        refine wpAnyH_ready (rs := [18]) (by kernel_rfl) (by simp) ?_
        refine AllReadyH.cons (o := { dst := none, op := _, type := _, pos := _, after := _, guard := _ }) rfl (fun K hK => ?_) AllReadyH.nil
        go_simp
        refine hK.out _ _ ?_ (fun hHeld => ?_)
        · (try dsimp only)
          first
            | (refine (SW.out _ _ (Below.refl _ _) ?_ ?_ ?_ ?_).2 <;> rfl)
            | (refine (SW.out _ _ F5.out.below ?_ ?_ ?_ ?_).2 <;> rfl)
            | (refine (SW.out _ _ (F5.out.below.alloc F5.out.below.size _) ?_ ?_ ?_ ?_).2 <;> rfl)
            | (with_reducible exact S6.2)
            | (with_reducible exact SS.out _ _ S6.2)
        clear hK K
        try simp only [Act.put, List.setIfInBounds_toArray, List.set_cons_zero, List.set_cons_succ]
        refine wpAnyH_done (by kernel_rfl) ?_ _
        obtain ⟨own7, h7, hB7, src7⟩ := KEY.out _ W5 W6 _ g' c' F5.out rfl rfl rfl rfl HG.out HN.out HO.out
        generalize W6.setCell ⟨bO, 4, none⟩ (.slice (some ⟨g', 0, none⟩) (nC + 1) c') = W7 at h7 hB7 src7 ⊢
        have H7 : Hid _ := h7
        have HB7 : Hid _ := hB7
        have SRC7 : Hid _ := src7
        clear h7 hB7 src7
        go_wp2_with (first
          | ((with_reducible show wpList _ _ _ ({ dst := some 452, op := _, type := _, pos := _, after := _, guard := _ } :: _) _ _); go_loud (refine wpList_copy_block rfl (.tmp 450) (.tmp 451) 29 29 rfl 3 Tryd.underlying29 s1 (some ⟨wr.heap.size, 2, none⟩) al 8 8 n cl_ rfl rfl wr.heap.size 2 [.int .i64 k, .int .i64 ta, .int .i64 0, .int .i64 0, .int .i64 0, .int .i64 0, .int .i64 0, .int .i64 0, .int .i64 0, .int .i64 0, .slice none 0 0, .int .i64 nC] 73 HB7.out.heap (ints l) (by rw [ints_length, ← HNL.out]; exact (Nat.min_eq_left (show n ≤ 8 by have := HN4.out; omega)).symm) (fun hp => ⟨rfl, SRC7.out (by rwa [ints_length] at hp)⟩) (by rw [ints_length]; have := HL4.out; simp; omega) (ints_oneCell .i64 l) ?_; intro W8 hh8 mv8; have HH8 : Hid _ := hh8; have MV8 : Hid _ := mv8; clear hh8 mv8))
          | (at_builtin; go_loud (refine wpList_append_fresh _ rfl (.tmp 453) (.tmp 455) 74 rfl 0 70 j0 (.pointer none) 1 8 Tryd.underlying74 hi hz0 hz1 hz2 rfl (by decide) (.slice (some ⟨gR, 0, none⟩) m cR) m (ptrs G) rfl (ROWP.out W7 W8 own7 _ _ H7.out HB7.out HH8.out MV8.out) ⟨W8.heap.size, 0, none⟩ 1 1 (by decide) [.pointer (some ⟨wr.heap.size, 0, none⟩)] rfl rfl (NEWP.out W8) (by simp [Value.oneCell']) (by unfold maxLen; omega) (by omega) (Nat.zero_le _) ?_; intro g2 c2 W9 ho2 hg2 hn2; have HO2 : Hid _ := ho2; have HG2 : Hid _ := hg2; have HN2 : Hid _ := hn2; clear ho2 hg2 hn2)))
        exact FIN2.out _ W7 W8 W9 own7 _ _ g2 c2 H7.out HB7.out HH8.out MV8.out ⟨rfl, rfl, rfl, rfl, rfl, rfl, rfl, rfl, rfl, rfl, rfl, rfl, rfl, rfl, rfl⟩ HG2.out HN2.out HO2.out
      · (refine step_copied rfl _ (.tmp 434) rfl rfl al l n cl_ rfl HNL.out HL1.out (by exact fun hp => SRC.out _ rfl rfl rfl rfl hp) ?_; intro va W5 f5; obtain ⟨a5, c5, rfl⟩ := f5.form; have d4 := (SW.out _ _ f5.below rfl rfl rfl rfl).1; have d5 : ∀ o, (W5.alloc o).cell? ⟨bO, 4, none⟩ = some (.slice aC nC xC) := fun o => (World.cell?_alloc_past o _ _ (World.block_lt_of_cell? W5 _ d4)).trans d4; have F5 : Hid _ := f5; clear f5)
        refine hK.out _ _ ?_ (fun hHeld => ?_)
        · (try dsimp only)
          first
            | (refine (SW.out _ _ (Below.refl _ _) ?_ ?_ ?_ ?_).2 <;> rfl)
            | (refine (SW.out _ _ F5.out.below ?_ ?_ ?_ ?_).2 <;> rfl)
            | (refine (SW.out _ _ (F5.out.below.alloc F5.out.below.size _) ?_ ?_ ?_ ?_).2 <;> rfl)
            | (with_reducible exact S6.2)
            | (with_reducible exact SS.out _ _ S6.2)
        clear hK K
        try simp only [Act.put, List.setIfInBounds_toArray, List.set_cons_zero, List.set_cons_succ]
        refine wpAnyH_take (i := 14) (oi := { dst := some 438, op := _, type := _, pos := _, after := _, guard := _ }) (v := ?_) rfl (by kernel_rfl) (by kernel_rfl) (by kernel_rfl) (fun _ _ _ h => h) (Or.inl ⟨by rfl, ?_⟩) (by assumption) ?_
        rotate_left
        · (intro w hSw; (try dsimp only at hSw); go_simp; try (with_reducible rfl))
        try simp only [Act.put, List.setIfInBounds_toArray, List.set_cons_zero, List.set_cons_succ]
        refine wpAnyH_ready (rs := [1, 15]) (by kernel_rfl) (by simp) ?_
        refine AllReadyH.cons (o := { dst := some 425, op := _, type := _, pos := _, after := _, guard := _ }) rfl (fun K hK => ?_) (AllReadyH.cons (o := { dst := some 439, op := _, type := _, pos := _, after := _, guard := _ }) rfl (fun K hK => ?_) AllReadyH.nil)
        · go_simp
          refine hK.out _ _ ?_ (fun hHeld => ?_)
          · (try dsimp only)
            first
              | (refine (SW.out _ _ (Below.refl _ _) ?_ ?_ ?_ ?_).2 <;> rfl)
              | (refine (SW.out _ _ F5.out.below ?_ ?_ ?_ ?_).2 <;> rfl)
              | (refine (SW.out _ _ (F5.out.below.alloc F5.out.below.size _) ?_ ?_ ?_ ?_).2 <;> rfl)
              | (with_reducible exact S6.2)
              | (with_reducible exact SS.out _ _ S6.2)
          clear hK K
          try simp only [Act.put, List.setIfInBounds_toArray, List.set_cons_zero, List.set_cons_succ]
          refine wpAnyH_ready (rs := [15]) (by kernel_rfl) (by simp) ?_
          refine AllReadyH.cons (o := { dst := some 439, op := _, type := _, pos := _, after := _, guard := _ }) rfl (fun K hK => ?_) AllReadyH.nil
          go_simp
          refine hK.out _ _ ?_ (fun hHeld => ?_)
          · (try dsimp only)
            first
              | (refine (SW.out _ _ (Below.refl _ _) ?_ ?_ ?_ ?_).2 <;> rfl)
              | (refine (SW.out _ _ F5.out.below ?_ ?_ ?_ ?_).2 <;> rfl)
              | (refine (SW.out _ _ (F5.out.below.alloc F5.out.below.size _) ?_ ?_ ?_ ?_).2 <;> rfl)
              | (with_reducible exact S6.2)
              | (with_reducible exact SS.out _ _ S6.2)
          clear hK K
          try simp only [Act.put, List.setIfInBounds_toArray, List.set_cons_zero, List.set_cons_succ]
          refine wpAnyH_ready (rs := [16]) (by kernel_rfl) (by simp) ?_
          refine AllReadyH.cons (o := { dst := some 440, op := _, type := _, pos := _, after := _, guard := _ }) rfl (fun K hK => ?_) AllReadyH.nil
          (refine step_append_fresh (by rfl) (.tmp 425) (.tmp 439) 39 (by rfl) 0 76 i1_ _ 7 72 Tryd.underlying39 gi gz0 gz1 gz2 (by rfl) (by decide) (.slice aC nC xC) nC (flatC C) (by rfl) (by exact ROW6.out _ W5 _ F5.out rfl rfl rfl rfl) ⟨W5.heap.size, 0, none⟩ 1 1 (by decide) [.int .i64 q, .int .i64 k, .int .i64 i_, .slice a5 l.length c5, .int .i64 m, .bool false, .int .i64 0] (by rfl) (by rfl) (NEW6.out W5 _) (ONE6.out _ _ _) (by unfold maxLen; omega) (by omega) (Nat.zero_le _) ?_; intro g' c' W6 ho hg hn'; obtain ⟨S6, z6⟩ := KEEP6.out _ W5 W6 _ F5.out rfl rfl rfl rfl hg; have d6 := S6.1; have HG : Hid _ := hg; have HN : Hid _ := hn'; have HO : Hid _ := ho; clear ho hg hn')
          refine hK.out _ _ ?_ (fun hHeld => ?_)
          · (try dsimp only)
            first
              | (refine (SW.out _ _ (Below.refl _ _) ?_ ?_ ?_ ?_).2 <;> rfl)
              | (refine (SW.out _ _ F5.out.below ?_ ?_ ?_ ?_).2 <;> rfl)
              | (refine (SW.out _ _ (F5.out.below.alloc F5.out.below.size _) ?_ ?_ ?_ ?_).2 <;> rfl)
              | (with_reducible exact S6.2)
              | (with_reducible exact SS.out _ _ S6.2)
          clear hK K
          try simp only [Act.put, List.setIfInBounds_toArray, List.set_cons_zero, List.set_cons_succ]
          refine wpAnyH_take (i := 17) (oi := { dst := some 441, op := _, type := _, pos := _, after := _, guard := _ }) (v := ?_) rfl (by kernel_rfl) (by kernel_rfl) (by kernel_rfl) (fun _ _ _ h => h) (Or.inl ⟨by rfl, ?_⟩) (by assumption) ?_
          rotate_left
          · (intro w hSw; (try dsimp only at hSw); go_simp; try (with_reducible rfl))
          try simp only [Act.put, List.setIfInBounds_toArray, List.set_cons_zero, List.set_cons_succ]
          refine wpAnyH_ready (rs := [18]) (by kernel_rfl) (by simp) ?_
          refine AllReadyH.cons (o := { dst := none, op := _, type := _, pos := _, after := _, guard := _ }) rfl (fun K hK => ?_) AllReadyH.nil
          go_simp
          refine hK.out _ _ ?_ (fun hHeld => ?_)
          · (try dsimp only)
            first
              | (refine (SW.out _ _ (Below.refl _ _) ?_ ?_ ?_ ?_).2 <;> rfl)
              | (refine (SW.out _ _ F5.out.below ?_ ?_ ?_ ?_).2 <;> rfl)
              | (refine (SW.out _ _ (F5.out.below.alloc F5.out.below.size _) ?_ ?_ ?_ ?_).2 <;> rfl)
              | (with_reducible exact S6.2)
              | (with_reducible exact SS.out _ _ S6.2)
          clear hK K
          try simp only [Act.put, List.setIfInBounds_toArray, List.set_cons_zero, List.set_cons_succ]
          refine wpAnyH_done (by kernel_rfl) ?_ _
          obtain ⟨own7, h7, hB7, src7⟩ := KEY.out _ W5 W6 _ g' c' F5.out rfl rfl rfl rfl HG.out HN.out HO.out
          generalize W6.setCell ⟨bO, 4, none⟩ (.slice (some ⟨g', 0, none⟩) (nC + 1) c') = W7 at h7 hB7 src7 ⊢
          have H7 : Hid _ := h7
          have HB7 : Hid _ := hB7
          have SRC7 : Hid _ := src7
          clear h7 hB7 src7
          go_wp2_with (first
            | ((with_reducible show wpList _ _ _ ({ dst := some 452, op := _, type := _, pos := _, after := _, guard := _ } :: _) _ _); go_loud (refine wpList_copy_block rfl (.tmp 450) (.tmp 451) 29 29 rfl 3 Tryd.underlying29 s1 (some ⟨wr.heap.size, 2, none⟩) al 8 8 n cl_ rfl rfl wr.heap.size 2 [.int .i64 k, .int .i64 ta, .int .i64 0, .int .i64 0, .int .i64 0, .int .i64 0, .int .i64 0, .int .i64 0, .int .i64 0, .int .i64 0, .slice none 0 0, .int .i64 nC] 73 HB7.out.heap (ints l) (by rw [ints_length, ← HNL.out]; exact (Nat.min_eq_left (show n ≤ 8 by have := HN4.out; omega)).symm) (fun hp => ⟨rfl, SRC7.out (by rwa [ints_length] at hp)⟩) (by rw [ints_length]; have := HL4.out; simp; omega) (ints_oneCell .i64 l) ?_; intro W8 hh8 mv8; have HH8 : Hid _ := hh8; have MV8 : Hid _ := mv8; clear hh8 mv8))
            | (at_builtin; go_loud (refine wpList_append_fresh _ rfl (.tmp 453) (.tmp 455) 74 rfl 0 70 j0 (.pointer none) 1 8 Tryd.underlying74 hi hz0 hz1 hz2 rfl (by decide) (.slice (some ⟨gR, 0, none⟩) m cR) m (ptrs G) rfl (ROWP.out W7 W8 own7 _ _ H7.out HB7.out HH8.out MV8.out) ⟨W8.heap.size, 0, none⟩ 1 1 (by decide) [.pointer (some ⟨wr.heap.size, 0, none⟩)] rfl rfl (NEWP.out W8) (by simp [Value.oneCell']) (by unfold maxLen; omega) (by omega) (Nat.zero_le _) ?_; intro g2 c2 W9 ho2 hg2 hn2; have HO2 : Hid _ := ho2; have HG2 : Hid _ := hg2; have HN2 : Hid _ := hn2; clear ho2 hg2 hn2)))
          exact FIN2.out _ W7 W8 W9 own7 _ _ g2 c2 H7.out HB7.out HH8.out MV8.out ⟨rfl, rfl, rfl, rfl, rfl, rfl, rfl, rfl, rfl, rfl, rfl, rfl, rfl, rfl, rfl⟩ HG2.out HN2.out HO2.out
        · go_simp
          refine hK.out _ _ ?_ (fun hHeld => ?_)
          · (try dsimp only)
            first
              | (refine (SW.out _ _ (Below.refl _ _) ?_ ?_ ?_ ?_).2 <;> rfl)
              | (refine (SW.out _ _ F5.out.below ?_ ?_ ?_ ?_).2 <;> rfl)
              | (refine (SW.out _ _ (F5.out.below.alloc F5.out.below.size _) ?_ ?_ ?_ ?_).2 <;> rfl)
              | (with_reducible exact S6.2)
              | (with_reducible exact SS.out _ _ S6.2)
          clear hK K
          try simp only [Act.put, List.setIfInBounds_toArray, List.set_cons_zero, List.set_cons_succ]
          refine wpAnyH_ready (rs := [1]) (by kernel_rfl) (by simp) ?_
          refine AllReadyH.cons (o := { dst := some 425, op := _, type := _, pos := _, after := _, guard := _ }) rfl (fun K hK => ?_) AllReadyH.nil
          go_simp
          refine hK.out _ _ ?_ (fun hHeld => ?_)
          · (try dsimp only)
            first
              | (refine (SW.out _ _ (Below.refl _ _) ?_ ?_ ?_ ?_).2 <;> rfl)
              | (refine (SW.out _ _ F5.out.below ?_ ?_ ?_ ?_).2 <;> rfl)
              | (refine (SW.out _ _ (F5.out.below.alloc F5.out.below.size _) ?_ ?_ ?_ ?_).2 <;> rfl)
              | (with_reducible exact S6.2)
              | (with_reducible exact SS.out _ _ S6.2)
          clear hK K
          try simp only [Act.put, List.setIfInBounds_toArray, List.set_cons_zero, List.set_cons_succ]
          refine wpAnyH_ready (rs := [16]) (by kernel_rfl) (by simp) ?_
          refine AllReadyH.cons (o := { dst := some 440, op := _, type := _, pos := _, after := _, guard := _ }) rfl (fun K hK => ?_) AllReadyH.nil
          (refine step_append_fresh (by rfl) (.tmp 425) (.tmp 439) 39 (by rfl) 0 76 i1_ _ 7 72 Tryd.underlying39 gi gz0 gz1 gz2 (by rfl) (by decide) (.slice aC nC xC) nC (flatC C) (by rfl) (by exact ROW6.out _ W5 _ F5.out rfl rfl rfl rfl) ⟨W5.heap.size, 0, none⟩ 1 1 (by decide) [.int .i64 q, .int .i64 k, .int .i64 i_, .slice a5 l.length c5, .int .i64 m, .bool false, .int .i64 0] (by rfl) (by rfl) (NEW6.out W5 _) (ONE6.out _ _ _) (by unfold maxLen; omega) (by omega) (Nat.zero_le _) ?_; intro g' c' W6 ho hg hn'; obtain ⟨S6, z6⟩ := KEEP6.out _ W5 W6 _ F5.out rfl rfl rfl rfl hg; have d6 := S6.1; have HG : Hid _ := hg; have HN : Hid _ := hn'; have HO : Hid _ := ho; clear ho hg hn')
          refine hK.out _ _ ?_ (fun hHeld => ?_)
          · (try dsimp only)
            first
              | (refine (SW.out _ _ (Below.refl _ _) ?_ ?_ ?_ ?_).2 <;> rfl)
              | (refine (SW.out _ _ F5.out.below ?_ ?_ ?_ ?_).2 <;> rfl)
              | (refine (SW.out _ _ (F5.out.below.alloc F5.out.below.size _) ?_ ?_ ?_ ?_).2 <;> rfl)
              | (with_reducible exact S6.2)
              | (with_reducible exact SS.out _ _ S6.2)
          clear hK K
          try simp only [Act.put, List.setIfInBounds_toArray, List.set_cons_zero, List.set_cons_succ]
          refine wpAnyH_take (i := 17) (oi := { dst := some 441, op := _, type := _, pos := _, after := _, guard := _ }) (v := ?_) rfl (by kernel_rfl) (by kernel_rfl) (by kernel_rfl) (fun _ _ _ h => h) (Or.inl ⟨by rfl, ?_⟩) (by assumption) ?_
          rotate_left
          · (intro w hSw; (try dsimp only at hSw); go_simp; try (with_reducible rfl))
          try simp only [Act.put, List.setIfInBounds_toArray, List.set_cons_zero, List.set_cons_succ]
          refine wpAnyH_ready (rs := [18]) (by kernel_rfl) (by simp) ?_
          refine AllReadyH.cons (o := { dst := none, op := _, type := _, pos := _, after := _, guard := _ }) rfl (fun K hK => ?_) AllReadyH.nil
          go_simp
          refine hK.out _ _ ?_ (fun hHeld => ?_)
          · (try dsimp only)
            first
              | (refine (SW.out _ _ (Below.refl _ _) ?_ ?_ ?_ ?_).2 <;> rfl)
              | (refine (SW.out _ _ F5.out.below ?_ ?_ ?_ ?_).2 <;> rfl)
              | (refine (SW.out _ _ (F5.out.below.alloc F5.out.below.size _) ?_ ?_ ?_ ?_).2 <;> rfl)
              | (with_reducible exact S6.2)
              | (with_reducible exact SS.out _ _ S6.2)
          clear hK K
          try simp only [Act.put, List.setIfInBounds_toArray, List.set_cons_zero, List.set_cons_succ]
          refine wpAnyH_done (by kernel_rfl) ?_ _
          obtain ⟨own7, h7, hB7, src7⟩ := KEY.out _ W5 W6 _ g' c' F5.out rfl rfl rfl rfl HG.out HN.out HO.out
          generalize W6.setCell ⟨bO, 4, none⟩ (.slice (some ⟨g', 0, none⟩) (nC + 1) c') = W7 at h7 hB7 src7 ⊢
          have H7 : Hid _ := h7
          have HB7 : Hid _ := hB7
          have SRC7 : Hid _ := src7
          clear h7 hB7 src7
          go_wp2_with (first
            | ((with_reducible show wpList _ _ _ ({ dst := some 452, op := _, type := _, pos := _, after := _, guard := _ } :: _) _ _); go_loud (refine wpList_copy_block rfl (.tmp 450) (.tmp 451) 29 29 rfl 3 Tryd.underlying29 s1 (some ⟨wr.heap.size, 2, none⟩) al 8 8 n cl_ rfl rfl wr.heap.size 2 [.int .i64 k, .int .i64 ta, .int .i64 0, .int .i64 0, .int .i64 0, .int .i64 0, .int .i64 0, .int .i64 0, .int .i64 0, .int .i64 0, .slice none 0 0, .int .i64 nC] 73 HB7.out.heap (ints l) (by rw [ints_length, ← HNL.out]; exact (Nat.min_eq_left (show n ≤ 8 by have := HN4.out; omega)).symm) (fun hp => ⟨rfl, SRC7.out (by rwa [ints_length] at hp)⟩) (by rw [ints_length]; have := HL4.out; simp; omega) (ints_oneCell .i64 l) ?_; intro W8 hh8 mv8; have HH8 : Hid _ := hh8; have MV8 : Hid _ := mv8; clear hh8 mv8))
            | (at_builtin; go_loud (refine wpList_append_fresh _ rfl (.tmp 453) (.tmp 455) 74 rfl 0 70 j0 (.pointer none) 1 8 Tryd.underlying74 hi hz0 hz1 hz2 rfl (by decide) (.slice (some ⟨gR, 0, none⟩) m cR) m (ptrs G) rfl (ROWP.out W7 W8 own7 _ _ H7.out HB7.out HH8.out MV8.out) ⟨W8.heap.size, 0, none⟩ 1 1 (by decide) [.pointer (some ⟨wr.heap.size, 0, none⟩)] rfl rfl (NEWP.out W8) (by simp [Value.oneCell']) (by unfold maxLen; omega) (by omega) (Nat.zero_le _) ?_; intro g2 c2 W9 ho2 hg2 hn2; have HO2 : Hid _ := ho2; have HG2 : Hid _ := hg2; have HN2 : Hid _ := hn2; clear ho2 hg2 hn2)))
          exact FIN2.out _ W7 W8 W9 own7 _ _ g2 c2 H7.out HB7.out HH8.out MV8.out ⟨rfl, rfl, rfl, rfl, rfl, rfl, rfl, rfl, rfl, rfl, rfl, rfl, rfl, rfl, rfl⟩ HG2.out HN2.out HO2.out
end Go.Proofs.YtmbbkabecipkaacDoor.RArmM
