/-
  HOW A RUN OF THE DOCUMENT's ANSWER RunOf LIES IN MEMORY: rooms, words, what was told, the data, the calls that were noted; plain, without a walk. And code that is cut behind some of its pieces.
  Conditions: none.
  WHAT mem.checkCode, mem.checkEntries AND mem.checkPart GIVE, for every part: each call returns, and lays new memory alone.
  Conditions: the table 'code.bounds' lies there, and what the part names.
-/
import Derived.Test.YtmbbkabecipkaacDoorWhole12
import Derived.Test.YtmbbkabecipkaacDoorWhole2
namespace Go.Proofs.YtmbbkabecipkaacDoor.RInv
open Go.RowKit Tab Img Mach Own Go.Proofs.YtmbbkabecipkaacDoor.Inv

/-- the first n pieces of code, and then R -/
def upto (P : Program) : Nat → Code → (Act → World → Prop) → (Exit → Act → World → Prop) → Act → World → Prop
  | 0, _, R, _ => R
  | n + 1, .seq x y, R, Q => fun a w => x.wp P (Exit.then (upto P n y R Q) Q) a w
  | _ + 1, c, _, Q => fun a w => c.wp P Q a w

/-- the code behind the first n pieces -/
def behind : Nat → Code → Code
  | 0, c => c
  | n + 1, .seq _ y => behind n y
  | _ + 1, _ => .skip

theorem upto_wp {P : Program} {R : Act → World → Prop} {Q : Exit → Act → World → Prop} : ∀ (n : Nat) (c : Code) {a : Act} {w : World}, (∀ a w, R a w → (behind n c).wp P Q a w) → upto P n c R Q a w → c.wp P Q a w
  | 0, _, a, w, hR, h => hR a w h
  | n + 1, c, a, w, hR, h => by
    cases c with
    | seq x y =>
      refine wp_seq (wp_mono h fun e a' w' he => ?_)
      cases e with
      | normal => exact upto_wp n y hR he
      | _ => exact he
    | _ => exact h

/-- all loops of some code, the outer ones alone -/
def loops : Code → List Code
  | .loop c => [c]
  | .seq a b => loops a ++ loops b
  | .block _ c => loops c
  | .scope c => loops c
  | .cond _ a b => loops a ++ loops b
  | _ => []

/-- the code inside a block -/
def inside : Code → Code
  | .block _ c => c
  | c => c

/-- pointers to rooms (the last one FIRST), as they lie -/
def ptrs : List (Fr × Nat × Value) → List Value
  | [] => []
  | (_, b, _) :: G => ptrs G ++ [.pointer (some ⟨b, 0, none⟩)]

theorem ptrs_length : ∀ G : List (Fr × Nat × Value), (ptrs G).length = G.length
  | [] => rfl
  | (_, _, _) :: G => by simp [ptrs, ptrs_length G]

/-- rooms, each in a block of its own -/
def RRooms (own : Nat → Tag) (w : World) : List (Fr × Nat × Value) → Prop
  | [] => True
  | (f, b, v) :: G => (Block own w b (frCells f v).toArray 73 (8, G.length) ∧ Owned own w 3 1 v f.words.length (ints f.words) (6, G.length) ∧ f.locals.length = 8) ∧ RRooms own w G

theorem RRooms.moves {own own' : Nat → Tag} {w w' : World} {t' : Tag} (m : Moves own own' w w' t') : ∀ {G : List (Fr × Nat × Value)}, RRooms own w G → (∀ k, k < G.length → t' ≠ (6, k) ∧ t' ≠ (8, k)) → RRooms own' w' G
  | [], _, _ => trivial
  | (f, b, v) :: G, h, hne => ⟨⟨h.1.1.moves m (fun e => (hne G.length (by simp)).2 e.symm), h.1.2.1.moves m (fun e => (hne G.length (by simp)).1 e.symm), h.1.2.2⟩, RRooms.moves m h.2 (fun k hk => hne k (by simp; omega))⟩

/-- what lay there when the loop began is as it was -/
structure RBase (own : Nat → Tag) (w1 w : World) : Prop where
  os : w.os = w1.os
  tape : w.tape = w1.tape
  output : w.output = w1.output
  size : w1.heap.size ≤ w.heap.size
  kept : ∀ b, b < w1.heap.size → own b = (0, 0) ∧ w.heap[b]? = w1.heap[b]?

theorem RBase.moves {own own' : Nat → Tag} {w1 w w' : World} {t' : Tag} (h : RBase own w1 w) (m : Moves own own' w w' t') (hne : t' ≠ (0, 0)) : RBase own' w1 w' :=
  ⟨m.os.trans h.os, m.tape.trans h.tape, m.output.trans h.output, Nat.le_trans h.size m.size, fun b hb =>
    ⟨(m.tags b (Nat.lt_of_lt_of_le hb h.size)).trans (h.kept b hb).1, (m.block b (Nat.lt_of_lt_of_le hb h.size) (by rw [(h.kept b hb).1]; exact hne.symm)).trans (h.kept b hb).2⟩⟩

theorem RBase.below {own : Nat → Tag} {w1 w : World} (h : RBase own w1 w) : Below w1.heap.size w1 w := ⟨h.os, h.tape, h.output, h.size, fun b hb => (h.kept b hb).2⟩

structure RInv (own : Nat → Tag) (w1 w : World) (bO : Nat) (vR vT vD vC : Value) (G : List (Fr × Nat × Value)) (data told : List Int) (C : List (Rec × Value)) : Prop where
  base : RBase own w1 w
  out : Block own w bO #[.int .i64 0, .int .i64 0, vT, vD, vC] 41 (1, 0)
  dat : Owned own w 3 1 vD data.length (ints data) (2, 0)
  row : Owned own w 70 1 vR G.length (ptrs G) (3, 0)
  told : Owned own w 3 1 vT told.length (ints told) (4, 0)
  calls : Owned own w 76 7 vC C.length (flatC C) (5, 0)
  rooms : RRooms own w G
  notes : Notes own w C

section
variable {own own' : Nat → Tag} {w1 w w' : World} {bO b : Nat} {vR vT vD vC v : Value} {f : Fr} {G : List (Fr × Nat × Value)} {data told : List Int} {C : List (Rec × Value)}

/-- tags that the run does not use: from ten on -/
theorem RInv.moves {n m : Nat} (h : RInv own w1 w bO vR vT vD vC G data told C) (mv : Moves own own' w w' (n + 9, m)) : RInv own' w1 w' bO vR vT vD vC G data told C :=
  ⟨h.base.moves mv (by simp), h.out.moves mv (by simp), h.dat.moves mv (by simp), h.row.moves mv (by simp), h.told.moves mv (by simp), h.calls.moves mv (by simp),
    h.rooms.moves mv (fun k _ => ⟨by simp, by simp⟩), h.notes.moves mv (fun k _ => by simp)⟩

/-- a cell of the last room is set -/
theorem RInv.top_set {f' : Fr} (h : RInv own w1 w bO vR vT vD vC ((f, b, v) :: G) data told C) (j : Nat) (u : Value) (hu : (frCells f v).set j u = frCells f' v) (hw : f'.words = f.words) (hl : f'.locals.length = 8) :
    RInv own w1 (w.setCell ⟨b, j, none⟩ u) bO vR vT vD vC ((f', b, v) :: G) data told C := by
  have mv := Moves.setCell own w b j u h.rooms.1.1.tag
  have hb := h.rooms.1.1.set j u
  rw [show (frCells f v).toArray.setIfInBounds j u = (frCells f' v).toArray by rw [List.setIfInBounds_toArray, hu]] at hb
  exact ⟨h.base.moves mv (by simp), h.out.moves mv (by simp), h.dat.moves mv (by simp), h.row.moves mv (by simp), h.told.moves mv (by simp), h.calls.moves mv (by simp),
    ⟨⟨hb, by rw [hw]; exact h.rooms.1.2.1.moves mv (by simp), hl⟩, h.rooms.2.moves mv (fun k hk => ⟨by simp, by simp; omega⟩)⟩, h.notes.moves mv (fun k _ => by simp)⟩

/-- the last room has other words: a new row, and its cell -/
theorem RInv.words_set {ws : List Int} {v' : Value} (h : RInv own w1 w bO vR vT vD vC ((f, b, v) :: G) data told C) (mv : Moves own own' w w' (6, G.length)) (ho : Owned own' w' 3 1 v' ws.length (ints ws) (6, G.length)) :
    RInv own' w1 (w'.setCell ⟨b, 10, none⟩ v') bO vR vT vD vC (({ f with words := ws }, b, v') :: G) data told C := by
  have hb0 := h.rooms.1.1.moves mv (by simp)
  have m2 := Moves.setCell own' w' b 10 v' hb0.tag
  have hl := h.rooms.1.2.2
  have hb := hb0.set 10 v'
  rw [show (frCells f v).toArray.setIfInBounds 10 v' = (frCells { f with words := ws } v').toArray by rw [List.setIfInBounds_toArray, Take.frCells_words hl ws v']] at hb
  exact ⟨(h.base.moves mv (by simp)).moves m2 (by simp), (h.out.moves mv (by simp)).moves m2 (by simp), (h.dat.moves mv (by simp)).moves m2 (by simp), (h.row.moves mv (by simp)).moves m2 (by simp), (h.told.moves mv (by simp)).moves m2 (by simp), (h.calls.moves mv (by simp)).moves m2 (by simp),
    ⟨⟨hb, ho.moves m2 (by simp), hl⟩, (h.rooms.2.moves mv (fun k hk => ⟨by simp; omega, by simp⟩)).moves m2 (fun k hk => ⟨by simp, by simp; omega⟩)⟩, (h.notes.moves mv (fun k _ => by simp)).moves m2 (fun k _ => by simp)⟩

/-- a word of the data -/
theorem RInv.data_set {k : Nat} {x : Int} {g cp : Nat} (h : RInv own w1 w bO vR vT (.slice (some ⟨g, 0, none⟩) data.length cp) vC G data told C) :
    RInv own w1 (w.setCell ⟨g, k, none⟩ (.int .i64 x)) bO vR vT (.slice (some ⟨g, 0, none⟩) data.length cp) vC G (data.set k x) told C := by
  have mv := Moves.setCell own w g k (.int .i64 x) (h.dat.tag g rfl)
  refine ⟨h.base.moves mv (by simp), h.out.moves mv (by simp), ?_, h.row.moves mv (by simp), h.told.moves mv (by simp), h.calls.moves mv (by simp), h.rooms.moves mv (fun k _ => ⟨by simp, by simp⟩), h.notes.moves mv (fun k _ => by simp)⟩
  have := h.dat.set k (.int .i64 x)
  rw [List.length_set]
  have e : (ints data).set k (.int .i64 x) = ints (data.set k x) := by simp [ints]
  rw [← e]
  exact this

/-- one word more is told: w': behind the append -/
theorem RInv.told_set {v' : Value} {x : Int} (h : RInv own w1 w bO vR vT vD vC G data told C) (hg : w.grownBy w' vT.ownBlock) (hn : v'.ownBlock = vT.ownBlock ∨ v'.ownBlock = some w.heap.size) (ho : w'.ownsRow 0 3 1 v' (told.length + 1) (ints told ++ ints [x])) :
    RInv (also own w.heap.size (4, 0)) w1 (w'.setCell ⟨bO, 2, none⟩ v') bO vR v' vD vC G data (told ++ [x]) C := by
  have mv := Moves.grown (t := (4, 0)) h.told.tag hg
  have hO : Owned (also own w.heap.size (4, 0)) w' 3 1 v' (told ++ [x]).length (ints (told ++ [x])) (4, 0) := ⟨by simpa [ints] using ho, also_tag h.told.tag hn⟩
  have hr := h.out.moves mv (by simp)
  have m2 := Moves.setCell (also own w.heap.size (4, 0)) w' bO 2 v' hr.tag
  exact ⟨(h.base.moves mv (by simp)).moves m2 (by simp), hr.set 2 v', (h.dat.moves mv (by simp)).moves m2 (by simp), (h.row.moves mv (by simp)).moves m2 (by simp), hO.moves m2 (by simp), (h.calls.moves mv (by simp)).moves m2 (by simp),
    (h.rooms.moves mv (fun k _ => ⟨by simp, by simp⟩)).moves m2 (fun k _ => ⟨by simp, by simp⟩), (h.notes.moves mv (fun k _ => by simp)).moves m2 (fun k _ => by simp)⟩

/-- a call more is noted: w': behind the append; va: the copy of its words -/
theorem RInv.note_set {v' va : Value} {r : Rec} (h : RInv own w1 w bO vR vT vD vC G data told C) (ha : Owned own w 3 1 va r.args.length (ints r.args) (7, C.length))
    (hg : w.grownBy w' vC.ownBlock) (hn : v'.ownBlock = vC.ownBlock ∨ v'.ownBlock = some w.heap.size) (ho : w'.ownsRow 0 76 7 v' (C.length + 1) (flatC C ++ recCells r va)) :
    RInv (also own w.heap.size (5, 0)) w1 (w'.setCell ⟨bO, 4, none⟩ v') bO vR vT vD v' G data told (C ++ [(r, va)]) := by
  have mv := Moves.grown (t := (5, 0)) h.calls.tag hg
  have hO : Owned (also own w.heap.size (5, 0)) w' 76 7 v' (C ++ [(r, va)]).length (flatC (C ++ [(r, va)])) (5, 0) := ⟨by rw [flatC_append]; simpa [flatC] using ho, also_tag h.calls.tag hn⟩
  have hr := h.out.moves mv (by simp)
  have m2 := Moves.setCell (also own w.heap.size (5, 0)) w' bO 4 v' hr.tag
  have ha2 := (ha.moves mv (by simp)).moves m2 (by simp)
  have hn2 := (h.notes.moves mv (fun k _ => by simp)).moves m2 (fun k _ => by simp)
  refine ⟨(h.base.moves mv (by simp)).moves m2 (by simp), hr.set 4 v', (h.dat.moves mv (by simp)).moves m2 (by simp), (h.row.moves mv (by simp)).moves m2 (by simp), (h.told.moves mv (by simp)).moves m2 (by simp), hO.moves m2 (by simp),
    (h.rooms.moves mv (fun k _ => ⟨by simp, by simp⟩)).moves m2 (fun k _ => ⟨by simp, by simp⟩), fun k r' v'' hk => ?_⟩
  by_cases hlt : k < C.length
  · rw [List.getElem?_append_left hlt] at hk
    exact hn2 k r' v'' hk
  · have h1 := (List.getElem?_eq_some_iff.1 hk).1
    simp only [List.length_append, List.length_cons, List.length_nil] at h1
    obtain rfl : k = C.length := by omega
    simp only [List.getElem?_concat_length, Option.some.injEq, Prod.mk.injEq] at hk
    obtain ⟨rfl, rfl⟩ := hk
    exact ha2

/-- a call that was noted is done -/
theorem RInv.calls_set {g cap k j : Nat} {r r' : Rec} {va u : Value} (h : RInv own w1 w bO vR vT vD (.slice (some ⟨g, 0, none⟩) C.length cap) G data told C) (hk : C[k]? = some (r, va)) (hj : j < 7) (hu : (recCells r va).set j u = recCells r' va) (hr : r'.args = r.args) :
    RInv own w1 (w.setCell ⟨g, k * 7 + j, none⟩ u) bO vR vT vD (.slice (some ⟨g, 0, none⟩) C.length cap) G data told (C.set k (r', va)) := by
  have mv := Moves.setCell own w g (k * 7 + j) u (h.calls.tag g rfl)
  have hn := h.notes.moves mv (fun k _ => by simp)
  refine ⟨h.base.moves mv (by simp), h.out.moves mv (by simp), h.dat.moves mv (by simp), h.row.moves mv (by simp), h.told.moves mv (by simp), ?_, h.rooms.moves mv (fun k _ => ⟨by simp, by simp⟩), fun i r'' v'' hi => ?_⟩
  · have := h.calls.set (k * 7 + j) u
    rw [flatC_set hj hk hu] at this
    rw [List.length_set]
    exact this
  · by_cases e : k = i
    · subst e
      rw [List.getElem?_set_self (List.getElem?_eq_some_iff.1 hk).1] at hi
      simp only [Option.some.injEq, Prod.mk.injEq] at hi
      obtain ⟨rfl, rfl⟩ := hi
      rw [hr]
      exact hn k r va hk
    · rw [List.getElem?_set_ne e] at hi
      exact hn i r'' v'' hi

/-- a room more: its block lies there, without words; w': behind the append of its pointer -/
theorem RInv.push {v' : Value} {g : Fr} {bg : Nat} (h : RInv own w1 w bO vR vT vD vC G data told C) (hgb : Block own w bg (frCells g (.slice none 0 0)).toArray 73 (8, G.length)) (hgw : g.words = []) (hgl : g.locals.length = 8)
    (hg : w.grownBy w' vR.ownBlock) (hn : v'.ownBlock = vR.ownBlock ∨ v'.ownBlock = some w.heap.size) (ho : w'.ownsRow 0 70 1 v' (G.length + 1) (ptrs G ++ [.pointer (some ⟨bg, 0, none⟩)])) :
    RInv (also own w.heap.size (3, 0)) w1 w' bO v' vT vD vC ((g, bg, .slice none 0 0) :: G) data told C := by
  have mv := Moves.grown (t := (3, 0)) h.row.tag hg
  refine ⟨h.base.moves mv (by simp), h.out.moves mv (by simp), h.dat.moves mv (by simp), ⟨by simpa [ptrs] using ho, also_tag h.row.tag hn⟩, h.told.moves mv (by simp), h.calls.moves mv (by simp),
    ⟨⟨hgb.moves mv (by simp), by rw [hgw]; exact Owned.nil _ _ _ _ _, hgl⟩, h.rooms.moves mv (fun k _ => ⟨by simp, by simp⟩)⟩, h.notes.moves mv (fun k _ => by simp)⟩

/-- the last room is gone -/
theorem RInv.pop {g cap : Nat} (h : RInv own w1 w bO (.slice (some ⟨g, 0, none⟩) (G.length + 1) cap) vT vD vC ((f, b, v) :: G) data told C) : RInv own w1 w bO (.slice (some ⟨g, 0, none⟩) G.length cap) vT vD vC G data told C := by
  refine ⟨h.base, h.out, h.dat, ⟨?_, h.row.tag⟩, h.told, h.calls, h.rooms.2, h.notes⟩
  have hr := h.row.row
  simp only [List.length_cons] at hr
  rcases hr.2 with ⟨h0, _⟩ | ⟨g', cap', cur, hv, hb, hh, hn, hm, hs, ht⟩
  · cases h0
  · cases hv
    refine ⟨by simp [ptrs_length], .inr ⟨g, cap, cur, rfl, hb, hh, by omega, hm, hs, ?_⟩⟩
    have e : (cur.toList.take ((G.length + 1) * 1)).take (G.length * 1) = (ptrs ((f, b, v) :: G)).take (G.length * 1) := by rw [ht]
    rw [List.take_take, Nat.min_eq_left (by omega)] at e
    rw [e, ptrs, Nat.mul_one, ← ptrs_length G, List.take_left']
    rfl

/-- what is needed of the last room: where its pointer lies -/
theorem RInv.top_ptr {g cap : Nat} (h : RInv own w1 w bO (.slice (some ⟨g, 0, none⟩) (G.length + 1) cap) vT vD vC ((f, b, v) :: G) data told C) : w.cell? ⟨g, G.length, none⟩ = some (.pointer (some ⟨b, 0, none⟩)) := by
  have hr := h.row
  simp only [List.length_cons] at hr
  refine hr.cell _ ?_
  rw [ptrs, List.getElem?_append_right (by rw [ptrs_length]; omega), ptrs_length, Nat.sub_self]
  rfl
end
end Go.Proofs.YtmbbkabecipkaacDoor.RInv

namespace Go.Proofs.YtmbbkabecipkaacDoor.Part
open Go.RowKit Tab Go.Proofs.YtmbbkabecipkaacDoor.Check Lists Go.Proofs.YtmbbkabecipkaacDoor.Read Img

theorem checkCode (ao : Option Addr) (len cap : Nat) (hlen : len ≤ 1200) (o a b c : Nat → Int) (w : World) (hl : Lies w) (hin : Instrs w ao len o a b c) :
    Calls Tryd.prog 55 #[.slice ao len cap] w fun e w' => e = .returned (.int .i64 (first (fun k => fault (o k) (a k) (b k) (c k)) len)) ∧ Below w.heap.size w w' := by
  have h2 : (len : Int) ≤ 1200 := by omega
  go_enter Tryd.func55, Tryd.ntmps55
  go_wp2
  go_loopw [8] (fun i wr => ∃ k : Nat, k ≤ len ∧ i = .int .i64 k ∧ first (fun k => fault (o k) (a k) (b k) (c k)) k = 0 ∧ Below w.heap.size w wr) (fun i _ => len - (intOf i).toNat)
  case atStart => exact ⟨0, Nat.zero_le _, rfl, rfl, Below.refl _ _⟩
  case round =>
    obtain ⟨k, hk, rfl, hf, hbel⟩ := hrel
    have hl2 : Lies wr := Lies_below hl hbel
    by_cases hkl : k < len
    · obtain ⟨bl, off, rfl, t0, t1, t2, t3⟩ := hin k hkl
      have hbl := World.block_lt_of_cell? w _ t0
      have s0 := (hbel.cell (p := ⟨bl, off + k * 4, none⟩) hbl).trans t0
      have s1 := (hbel.cell (p := ⟨bl, off + k * 4 + 1, none⟩) hbl).trans t1
      have s2 := (hbel.cell (p := ⟨bl, off + k * 4 + 2, none⟩) hbl).trans t2
      have s3 := (hbel.cell (p := ⟨bl, off + k * 4 + 3, none⟩) hbl).trans t3
      have k6 : ∀ w', Lies w' → _ := fun w' h => check (o k) (a k) (b k) (c k) w' h
      obtain ⟨x0, e0⟩ : ∃ x, x = o k := ⟨_, rfl⟩
      obtain ⟨x1, e1⟩ : ∃ x, x = a k := ⟨_, rfl⟩
      obtain ⟨x2, e2⟩ : ∃ x, x = b k := ⟨_, rfl⟩
      obtain ⟨x3, e3⟩ : ∃ x, x = c k := ⟨_, rfl⟩
      obtain ⟨r, er⟩ : ∃ r, r = fault (o k) (a k) (b k) (c k) := ⟨_, rfl⟩
      rw [← er, ← e0, ← e1, ← e2, ← e3] at k6
      rw [← e0] at s0
      rw [← e1] at s1
      rw [← e2] at s2
      rw [← e3] at s3
      have HF : Hid (first (fun k => fault (o k) (a k) (b k) (c k)) k = 0) := hf
      have ER : Hid (r = fault (o k) (a k) (b k) (c k)) := er
      have hl3 := Lies_below hl2 (below1 wr (.cells #[.int .i64 x0, .int .i64 x1, .int .i64 x2, .int .i64 x3] 27))
      have hbel2 := hbel.alloc hbel.size (.cells #[.int .i64 x0, .int .i64 x1, .int .i64 x2, .int .i64 x3] 27)
      have hsz := hbel2.size
      clear t0 t1 t2 t3 e0 e1 e2 e3 er hin hl hl2 hf hbel
      by_cases hr : r = 0
      · subst hr
        go_wp2_with (go_at_call 57; refine (k6 _ hl3).mono ?_; rintro e w3 ⟨rfl, hb1⟩; have hbel3 := hbel2.trans (hb1.mono hsz); clear hb1 hbel2 hl3)
        go_roundw
        case rel => exact ⟨k + 1, by omega, by go_num, by rw [first_succ HF.out]; exact ER.out.symm, hbel3⟩
        case measure => simp [intOf]; omega
      · have hr2 : (r == 0) = false := by simpa using hr
        go_wp2_with (go_at_call 57; refine (k6 _ hl3).mono ?_; rintro e w3 ⟨rfl, hb1⟩; have hbel3 := hbel2.trans (hb1.mono hsz); clear hb1 hbel2 hl3)
        have e1 := first_stops hkl HF.out (by rw [← ER.out]; exact hr)
        go_ret
        exact ⟨by rw [e1, ← ER.out]; rfl, hbel3⟩
    · obtain rfl : k = len := by omega
      clear hl hl2 hin
      have HF : Hid (first (fun k => fault (o k) (a k) (b k) (c k)) k = 0) := hf
      clear hf
      go_wp2
      go_ret
      exact ⟨by rw [HF.out]; rfl, hbel⟩

theorem checkEntries (ao : Option Addr) (len cap n : Nat) (hlen : len ≤ 8) (t r : Nat → Int) (w : World) (hin : Entries w ao len t r) :
    Calls Tryd.prog 56 #[.slice ao len cap, .int .i64 n] w fun e w' => e = .returned (.int .i64 (first (fun k => entryFault n (t k) (r k)) len)) ∧ Below w.heap.size w w' := by
  have h2 : (len : Int) ≤ 8 := by omega
  go_enter Tryd.func56, Tryd.ntmps56
  go_wp2
  go_loopw [9] (fun i wr => ∃ k : Nat, k ≤ len ∧ i = .int .i64 k ∧ first (fun k => entryFault n (t k) (r k)) k = 0 ∧ Below w.heap.size w wr) (fun i _ => len - (intOf i).toNat)
  case atStart => exact ⟨0, Nat.zero_le _, rfl, rfl, Below.refl _ _⟩
  case round =>
    obtain ⟨k, hk, rfl, hf, hbel⟩ := hrel
    by_cases hkl : k < len
    · obtain ⟨bl, off, rfl, t0, t1⟩ := hin k hkl
      have hbl := World.block_lt_of_cell? w _ t0
      have s0 := (hbel.cell (p := ⟨bl, off + k * 2, none⟩) hbl).trans t0
      have s1 := (hbel.cell (p := ⟨bl, off + k * 2 + 1, none⟩) hbl).trans t1
      obtain ⟨x0, e0⟩ : ∃ x, x = t k := ⟨_, rfl⟩
      obtain ⟨x1, e1⟩ : ∃ x, x = r k := ⟨_, rfl⟩
      rw [← e0] at s0
      rw [← e1] at s1
      have HF : Hid (first (fun k => entryFault n (t k) (r k)) k = 0) := hf
      have hbel2 := hbel.alloc hbel.size (.cells #[.int .i64 x0, .int .i64 x1] 52)
      have ER : Hid (entryFault n (t k) (r k) = entryFault n x0 x1) := by
        rw [e0, e1]
        exact (rfl : entryFault n (t k) (r k) = _)
      clear t0 t1 e0 e1 hin hf hbel
      by_cases hr : (0 ≤ x0 ∧ x0 < n) ∧ (0 ≤ x1 ∧ x1 ≤ 4)
      · have e2 : Hid (entryFault n x0 x1 = 0) := if_pos hr
        obtain ⟨⟨c0, c1⟩, c2, c3⟩ := hr
        go_wp2
        go_roundw
        case rel => exact ⟨k + 1, by omega, by go_num, by rw [first_succ HF.out, ER.out]; exact e2.out, hbel2⟩
        case measure => simp [intOf]; omega
      · have e2 : Hid (entryFault n x0 x1 = 2) := if_neg hr
        have e3 : Hid (first (fun k => entryFault n (t k) (r k)) len = 2) := (first_stops hkl HF.out (by rw [ER.out, e2.out]; decide)).trans (ER.out.trans e2.out)
        rcases (show x0 < 0 ∨ (0 ≤ x0 ∧ (n : Int) ≤ x0) ∨ (0 ≤ x0 ∧ x0 < n ∧ x1 < 0) ∨ (0 ≤ x0 ∧ x0 < n ∧ 0 ≤ x1 ∧ 4 < x1) by omega) with c0 | ⟨c0, c1⟩ | ⟨c0, c1, c2⟩ | ⟨c0, c1, c2, c3⟩
        all_goals
          clear hr
          go_wp2
          go_ret
          exact ⟨by rw [e3.out]; rfl, hbel2⟩
    · obtain rfl : k = len := by omega
      clear hin
      have HF : Hid (first (fun k => entryFault n (t k) (r k)) k = 0) := hf
      clear hf
      go_wp2
      go_ret
      exact ⟨by rw [HF.out]; rfl, hbel⟩

set_option maxHeartbeats 4000000 in
theorem checkPart (p : PartD) (start : Int) (w : World) (hl : Lies w) (hp : PartLies w p) :
    Calls Tryd.prog 53 #[.agg #[.slice p.ca p.cl p.cc, .slice p.ea p.el p.ec, .int .i64 p.lo, .int .i64 p.hi], .int .i64 start] w fun e w' => e = .returned (.int .i64 (partFault p start)) ∧ Below w.heap.size w w' := by
  by_cases hs : p.cl ≤ 1200 ∧ p.el ≤ 8
  · have PF : Hid (partFault p start = if codeFault p = 0 then if entriesFault p = 0 then if p.lo = start ∧ p.lo ≤ p.hi ∧ p.hi ≤ 250 then 0 else 8 else entriesFault p else codeFault p) := if_pos hs
    have k35 : ∀ w', Lies w' → PartLies w' p → Calls Tryd.prog 55 #[.slice p.ca p.cl p.cc] w' fun e w'' => e = .returned (.int .i64 (codeFault p)) ∧ Below w'.heap.size w' w'' := fun w' h h' => checkCode p.ca p.cl p.cc hs.1 p.o p.a p.b p.c w' h h'.1
    have k36 : ∀ w', PartLies w' p → Calls Tryd.prog 56 #[.slice p.ea p.el p.ec, .int .i64 p.cl] w' fun e w'' => e = .returned (.int .i64 (entriesFault p)) ∧ Below w'.heap.size w' w'' := fun w' h' => checkEntries p.ea p.el p.ec p.cl hs.2 p.ats p.prs w' h'.2
    have below : ∀ w', Below w.heap.size w w' → PartLies w' p := fun w' hb => PartLies_below hp hb
    obtain ⟨x, ex⟩ : ∃ x, x = codeFault p := ⟨_, rfl⟩
    obtain ⟨y, ey⟩ : ∃ y, y = entriesFault p := ⟨_, rfl⟩
    rw [← ex] at k35
    rw [← ey] at k36
    rw [← ex, ← ey] at PF
    obtain ⟨ca, cl, cc, o, a, b, c, ea, el, ec, ats, prs, lo, hi⟩ := p
    dsimp only at hs k35 k36 PF ⊢
    obtain ⟨hs1, hs2⟩ := hs
    have h1 : (cl : Int) ≤ 1200 := by omega
    have h2 : (el : Int) ≤ 8 := by omega
    have hb0 := below1 w (.cells #[.slice ca cl cc, .slice ea el ec, .int .i64 lo, .int .i64 hi] 55)
    have hp1 := below _ hb0
    have hl1 := Lies_below hl hb0
    have hz := hb0.size
    clear ex ey hp hl
    by_cases hx : x = 0
    · subst hx
      by_cases hy : y = 0
      · subst hy
        by_cases hc : lo = start ∧ lo ≤ hi ∧ hi ≤ 250
        · have e0 : Hid (_ = _) := PF.out.trans (by rw [if_pos rfl, if_pos rfl, if_pos hc])
          obtain ⟨rfl, c1, c2⟩ := hc
          clear PF
          go_enter Tryd.func53, Tryd.ntmps53
          go_wp2_with (first
            | (go_at_call 55; refine (k35 _ hl1 hp1).mono ?_; rintro e w2 ⟨rfl, hb1⟩; obtain ⟨q0, q1, q2, q3⟩ := box4 hb1; have hb2 := hb0.trans (hb1.mono hz); have hp2 := below _ hb2; have HB1 : Hid _ := hb1; clear hb1)
            | (go_at_call 56; refine (k36 _ hp2).mono ?_; rintro e w3 ⟨rfl, hb3⟩; obtain ⟨q4, q5, q6, q7⟩ := box4 (HB1.out.trans (hb3.mono HB1.out.size)); have hb4 := hb2.trans (hb3.mono hb2.size)))
          go_ret
          exact ⟨by rw [e0.out]; rfl, hb4⟩
        · have e0 : Hid (_ = _) := PF.out.trans (by rw [if_pos rfl, if_pos rfl, if_neg hc])
          clear PF
          rcases (show lo < start ∨ start < lo ∨ (lo = start ∧ hi < lo) ∨ (lo = start ∧ lo ≤ hi ∧ 250 < hi) by omega) with c0 | c0 | ⟨rfl, c1⟩ | ⟨rfl, c1, c2⟩
          all_goals
            clear hc
            go_enter Tryd.func53, Tryd.ntmps53
            go_wp2_with (first
              | (go_at_call 55; refine (k35 _ hl1 hp1).mono ?_; rintro e w2 ⟨rfl, hb1⟩; obtain ⟨q0, q1, q2, q3⟩ := box4 hb1; have hb2 := hb0.trans (hb1.mono hz); have hp2 := below _ hb2; have HB1 : Hid _ := hb1; clear hb1)
              | (go_at_call 56; refine (k36 _ hp2).mono ?_; rintro e w3 ⟨rfl, hb3⟩; obtain ⟨q4, q5, q6, q7⟩ := box4 (HB1.out.trans (hb3.mono HB1.out.size)); have hb4 := hb2.trans (hb3.mono hb2.size)))
            go_ret
            exact ⟨by rw [e0.out]; rfl, hb4⟩
      · have e0 : Hid (_ = _) := PF.out.trans (by rw [if_pos rfl, if_neg hy])
        have hy2 : (y == 0) = false := by simpa using hy
        clear PF
        go_enter Tryd.func53, Tryd.ntmps53
        go_wp2_with (first
          | (go_at_call 55; refine (k35 _ hl1 hp1).mono ?_; rintro e w2 ⟨rfl, hb1⟩; obtain ⟨q0, q1, q2, q3⟩ := box4 hb1; have hb2 := hb0.trans (hb1.mono hz); have hp2 := below _ hb2; clear hb1)
          | (go_at_call 56; refine (k36 _ hp2).mono ?_; rintro e w3 ⟨rfl, hb3⟩; have hb4 := hb2.trans (hb3.mono hb2.size)))
        go_ret
        exact ⟨by rw [e0.out]; rfl, hb4⟩
    · have e0 : Hid (_ = _) := PF.out.trans (by rw [if_neg hx])
      have hx2 : (x == 0) = false := by simpa using hx
      clear PF
      go_enter Tryd.func53, Tryd.ntmps53
      go_wp2_with (go_at_call 55; refine (k35 _ hl1 hp1).mono ?_; rintro e w2 ⟨rfl, hb1⟩; have hb2 := hb0.trans (hb1.mono hz))
      go_ret
      exact ⟨by rw [e0.out]; rfl, hb2⟩
  · have PF : Hid (partFault p start = 1) := if_neg hs
    obtain ⟨ca, cl, cc, o, a, b, c, ea, el, ec, ats, prs, lo, hi⟩ := p
    dsimp only at hs PF ⊢
    rcases (show (1200 : Int) < cl ∨ ((cl : Int) ≤ 1200 ∧ (8 : Int) < el) by omega) with c0 | ⟨c0, c1⟩
    all_goals
      clear hs hp hl
      go_enter Tryd.func53, Tryd.ntmps53
      go_wp2
      go_ret
      exact ⟨by rw [PF.out]; rfl, below1 _ _⟩
end Go.Proofs.YtmbbkabecipkaacDoor.Part
