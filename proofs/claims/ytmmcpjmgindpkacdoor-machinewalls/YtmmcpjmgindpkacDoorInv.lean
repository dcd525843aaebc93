/-
  HOW A RUN OF mach LIES IN MEMORY: frames, words, what was told, the data, the calls that were noted; plain, without a walk.
  Conditions: none.
-/
import Derived.Test.YtmmcpjmgindpkacDoorMach
import Derived.Test.YtmmcpjmgindpkacDoorOwn
namespace Go.Proofs.YtmmcpjmgindpkacDoor.Inv
open Go.RowKit Tab Img Mach Own

def ints (l : List Int) : List Value := l.map (Value.int .i64)
/-- the note of a frame, as the code has it -/
def note : Option Nat → Int
  | none => -1
  | some k => k
def frCells (f : Fr) (v : Value) : List Value := .int .i64 f.part :: .int .i64 f.pc :: (ints f.locals ++ [v, .int .i64 (note f.noted)])
/-- frames, the last one first, as they lie: the last one last -/
def flat : List (Fr × Value) → List Value
  | [] => []
  | (f, v) :: F => flat F ++ frCells f v
def recCells (r : Rec) (v : Value) : List Value := [.int .i64 r.by_, .int .i64 r.part, .int .i64 r.entry, v, .int .i64 r.deep, .bool r.done, .int .i64 r.value]
def flatC (C : List (Rec × Value)) : List Value := C.flatMap fun p => recCells p.1 p.2

theorem ints_length (l : List Int) : (ints l).length = l.length := by simp [ints]
theorem frCells_length {f : Fr} (h : f.locals.length = 8) (v : Value) : (frCells f v).length = 12 := by simp [frCells, ints, h]

/-- words of a frame, and behind them those that were taken and not yet written over -/
def WordsAt (own : Nat → Tag) (w : World) (v : Value) (ws l : List Int) (t : Tag) : Prop :=
  (v = .slice none 0 0 ∧ ws = [] ∧ l = []) ∨
  ∃ g cap cur, v = .slice (some ⟨g, 0, none⟩) ws.length cap ∧ own g = t ∧ w.heap[g]? = some (.cells cur 3 (0, 0)) ∧ ws.length + l.length ≤ cap ∧ cap ≤ maxLen ∧ cur.size = cap ∧ cur.toList.take (ws.length + l.length) = ints (ws ++ l)

theorem WordsAt.moves {own own' : Nat → Tag} {w w' : World} {v : Value} {ws l : List Int} {t t' : Tag} (h : WordsAt own w v ws l t) (m : Moves own own' w w' t') (hne : t ≠ t') : WordsAt own' w' v ws l t := by
  rcases h with h | ⟨g, cap, cur, hv, ht, hg, r⟩
  · exact .inl h
  · have hl := (Array.getElem?_eq_some_iff.1 hg).1
    exact .inr ⟨g, cap, cur, hv, (m.tags g hl).trans ht, (m.block g hl (by rw [ht]; exact hne)).trans hg, r⟩

theorem WordsAt.less {own : Nat → Tag} {w : World} {v : Value} {ws l : List Int} {t : Tag} (h : WordsAt own w v ws l t) : WordsAt own w v ws [] t := by
  rcases h with ⟨h, h', _⟩ | ⟨g, cap, cur, hv, ht, hg, h1, h2, h3, h4⟩
  · exact .inl ⟨h, h', rfl⟩
  · refine .inr ⟨g, cap, cur, hv, ht, hg, by simp; omega, h2, h3, ?_⟩
    have : (cur.toList.take (ws.length + l.length)).take ws.length = (ints (ws ++ l)).take ws.length := by rw [h4]
    rw [List.take_take, Nat.min_eq_left (by omega)] at this
    simp only [List.length_nil, Nat.add_zero, List.append_nil]
    rw [this]
    simp [ints]

theorem WordsAt.owned {own : Nat → Tag} {w : World} {v : Value} {ws l : List Int} {t : Tag} (h : WordsAt own w v ws l t) : Owned own w 3 1 v ws.length (ints ws) t := by
  rcases h.less with ⟨h, h', _⟩ | ⟨g, cap, cur, hv, ht, hg, h1, h2, h3, h4⟩
  · subst h h'
    exact Owned.nil _ _ _ _ _
  · subst hv
    simp only [List.length_nil, Nat.add_zero, List.append_nil] at h1 h4
    exact ⟨⟨by simp [ints], .inr ⟨g, cap, cur, rfl, Nat.zero_le _, hg, h1, h2, by omega, by rw [Nat.mul_one]; exact h4⟩⟩, fun g' hg' => by simp [Value.ownBlock] at hg'; rw [← hg']; exact ht⟩

theorem WordsAt.of {own : Nat → Tag} {w : World} {v : Value} {ws : List Int} {t : Tag} (h : Owned own w 3 1 v ws.length (ints ws) t) : WordsAt own w v ws [] t := by
  rcases h.row.2 with ⟨h0, h1⟩ | ⟨g, cap, cur, hv, _, hg, h1, h2, h3, h4⟩
  · exact .inl ⟨h0, List.eq_nil_of_length_eq_zero h1, rfl⟩
  · subst hv
    exact .inr ⟨g, cap, cur, rfl, h.tag g rfl, hg, by simpa using h1, h2, by omega, by simpa using h4⟩

/-- taking: the last words go behind the length -/
theorem WordsAt.take {own : Nat → Tag} {w : World} {v : Value} {ws : List Int} {t : Tag} (h : WordsAt own w v ws [] t) (n : Nat) (hn : n ≤ ws.length) {v' : Value}
    (hv : (v = .slice none 0 0 → v' = .slice none 0 0) ∧ ∀ g cap, v = .slice (some ⟨g, 0, none⟩) ws.length cap → v' = .slice (some ⟨g, 0, none⟩) (ws.length - n) cap) :
    WordsAt own w v' (ws.take (ws.length - n)) (ws.drop (ws.length - n)) t := by
  rcases h with ⟨h, h', _⟩ | ⟨g, cap, cur, h, ht, hg, h1, h2, h3, h4⟩
  · subst h'
    exact .inl ⟨hv.1 h, by simp, by simp⟩
  · refine .inr ⟨g, cap, cur, ?_, ht, hg, ?_, h2, h3, ?_⟩
    · rw [hv.2 g cap h]
      simp
    · simp at h1 ⊢; omega
    · rw [List.take_append_drop]
      simp only [List.length_nil, Nat.add_zero, List.append_nil] at h4
      rw [List.length_take, List.length_drop, ← h4]
      congr 1
      omega

/-- tv: the slice of the n words that were taken behind those of v -/
def Cut (v tv : Value) (n : Nat) : Prop := ∃ ao c, tv = .slice ao n c ∧ (0 < n → ∃ g len cap, v = .slice (some ⟨g, 0, none⟩) len cap ∧ ao = some ⟨g, len, none⟩)

theorem WordsAt.cut {own : Nat → Tag} {w : World} {v tv : Value} {ws l : List Int} {t : Tag} (h : WordsAt own w v ws l t) (hc : Cut v tv l.length) :
    ∃ ao c, tv = .slice ao l.length c ∧ ∀ i x, l[i]? = some x → ∃ g, ao = some ⟨g, ws.length, none⟩ ∧ w.cell? ⟨g, ws.length + i, none⟩ = some (.int .i64 x) := by
  obtain ⟨ao, c, e, hp⟩ := hc
  refine ⟨ao, c, e, fun i x hx => ?_⟩
  have hi := (List.getElem?_eq_some_iff.1 hx).1
  obtain ⟨g, len, cap, hv, ha⟩ := hp (by omega)
  rcases h with ⟨h, _⟩ | ⟨g', cap', cur, hv', ht, hg, h1, h2, h3, h4⟩
  · rw [h] at hv; cases hv
  · rw [hv] at hv'
    cases hv'
    refine ⟨g, ha, (cell_of_row w g _ cur 3 (0, 0) hg).trans ?_⟩
    have h5 : (cur.toList.take (ws.length + l.length))[ws.length + i]? = (ints (ws ++ l))[ws.length + i]? := by rw [h4]
    rw [List.getElem?_take, if_pos (by omega)] at h5
    rw [← Array.getElem?_toList, h5, ints, List.map_append, List.getElem?_append_right (by simp)]
    simp [hx]

/-- the frames behind the last one -/
def Rooms (own : Nat → Tag) (w : World) : List (Fr × Value) → Prop
  | [] => True
  | (f, v) :: F => (WordsAt own w v f.words [] (6, F.length) ∧ f.locals.length = 8) ∧ Rooms own w F

/-- all frames; l: words that were taken of the last one -/
def Pend (own : Nat → Tag) (w : World) (l : List Int) : List (Fr × Value) → Prop
  | [] => l = []
  | (f, v) :: F => (WordsAt own w v f.words l (6, F.length) ∧ f.locals.length = 8) ∧ Rooms own w F

theorem Rooms.moves {own own' : Nat → Tag} {w w' : World} {t' : Tag} (m : Moves own own' w w' t') : ∀ {F : List (Fr × Value)}, Rooms own w F → (∀ k, k < F.length → t' ≠ (6, k)) → Rooms own' w' F
  | [], _, _ => trivial
  | (f, v) :: F, h, hne => ⟨⟨h.1.1.moves m (fun e => hne F.length (by simp) e.symm), h.1.2⟩, Rooms.moves m h.2 (fun k hk => hne k (by simp; omega))⟩

theorem Pend.moves {own own' : Nat → Tag} {w w' : World} {t' : Tag} (m : Moves own own' w w' t') {l : List Int} : ∀ {F : List (Fr × Value)}, Pend own w l F → (∀ k, k < F.length → t' ≠ (6, k)) → Pend own' w' l F
  | [], h, _ => h
  | (f, v) :: F, h, hne => ⟨⟨h.1.1.moves m (fun e => hne F.length (by simp) e.symm), h.1.2⟩, Rooms.moves m h.2 (fun k hk => hne k (by simp; omega))⟩

theorem Pend.rooms {own : Nat → Tag} {w : World} {l : List Int} : ∀ {F : List (Fr × Value)}, Pend own w l F → Rooms own w F
  | [], _ => trivial
  | (_, _) :: _, h => ⟨⟨h.1.1.less, h.1.2⟩, h.2⟩

theorem Rooms.pend {own : Nat → Tag} {w : World} : ∀ {F : List (Fr × Value)}, Rooms own w F → Pend own w [] F
  | [], _ => rfl
  | (_, _) :: _, h => h

theorem Rooms.flat_length {own : Nat → Tag} {w : World} : ∀ {F : List (Fr × Value)}, Rooms own w F → (flat F).length = F.length * 12
  | [], _ => rfl
  | (f, v) :: F, h => by
    have h2 := Rooms.flat_length h.2
    have h1 := frCells_length h.1.2 v
    simp only [flat, List.length_append, List.length_cons, h1, h2]
    omega

/-- the words of the calls that were noted -/
def Notes (own : Nat → Tag) (w : World) (C : List (Rec × Value)) : Prop := ∀ k r v, C[k]? = some (r, v) → Owned own w 3 1 v r.args.length (ints r.args) (7, k)

theorem Notes.moves {own own' : Nat → Tag} {w w' : World} {t' : Tag} (m : Moves own own' w w' t') {C : List (Rec × Value)} (h : Notes own w C) (hne : ∀ k, k < C.length → t' ≠ (7, k)) : Notes own' w' C :=
  fun k r v hk => (h k r v hk).moves m (fun e => hne k (List.getElem?_eq_some_iff.1 hk).1 e.symm)

/-- what lay there when the run began, and is not the run's, is as it was -/
structure Base (own : Nat → Tag) (w1 w : World) (R D : Nat) : Prop where
  os : w.os = w1.os
  tape : w.tape = w1.tape
  output : w.output = w1.output
  size : w1.heap.size ≤ w.heap.size
  kept : ∀ b, b < w1.heap.size → b ≠ R → b ≠ D → own b = (0, 0) ∧ w.heap[b]? = w1.heap[b]?

theorem Base.moves {own own' : Nat → Tag} {w1 w w' : World} {R D : Nat} {t' : Tag} (h : Base own w1 w R D) (m : Moves own own' w w' t') (hne : t' ≠ (0, 0)) : Base own' w1 w' R D :=
  ⟨m.os.trans h.os, m.tape.trans h.tape, m.output.trans h.output, Nat.le_trans h.size m.size, fun b hb hR hD =>
    ⟨(m.tags b (Nat.lt_of_lt_of_le hb h.size)).trans (h.kept b hb hR hD).1, (m.block b (Nat.lt_of_lt_of_le hb h.size) (by rw [(h.kept b hb hR hD).1]; exact hne.symm)).trans (h.kept b hb hR hD).2⟩⟩

theorem Base.cell {own : Nat → Tag} {w1 w : World} {R D : Nat} (h : Base own w1 w R D) {a : Addr} {v : Value} (hv : w1.cell? a = some v) (hR : a.block ≠ R) (hD : a.block ≠ D) : w.cell? a = some v :=
  (World.cell?_of_block (h.kept a.block (World.block_lt_of_cell? w1 a hv) hR hD).2).trans hv

/-- a run between two steps, or (l not empty) with words taken -/
structure Inv (own : Nat → Tag) (w1 w : World) (R D : Nat) (pS lS vF vT vC : Value) (fuel : Int) (F : List (Fr × Value)) (l data told : List Int) (C : List (Rec × Value)) : Prop where
  base : Base own w1 w R D
  run : Block own w R #[pS, lS, vF, .int .i64 fuel, .int .i64 0, .int .i64 0, vT, .slice (some ⟨D, 0, none⟩) data.length data.length, vC] 68 (1, 0)
  dat : Owned own w 3 1 (.slice (some ⟨D, 0, none⟩) data.length data.length) data.length (ints data) (2, 0)
  frames : Owned own w 85 12 vF F.length (flat F) (3, 0)
  told : Owned own w 3 1 vT told.length (ints told) (4, 0)
  calls : Owned own w 76 7 vC C.length (flatC C) (5, 0)
  rooms : Pend own w l F
  notes : Notes own w C

/-- new memory that is nobody's -/
theorem Inv.moves {own own' : Nat → Tag} {w1 w w' : World} {R D : Nat} {pS lS vF vT vC : Value} {fuel : Int} {F : List (Fr × Value)} {l data told : List Int} {C : List (Rec × Value)} (h : Inv own w1 w R D pS lS vF vT vC fuel F l data told C)
    (m : Moves own own' w w' (9, 9)) : Inv own' w1 w' R D pS lS vF vT vC fuel F l data told C :=
  ⟨h.base.moves m (by decide), h.run.moves m (by decide), h.dat.moves m (by decide), h.frames.moves m (by decide), h.told.moves m (by decide), h.calls.moves m (by decide),
    h.rooms.moves m (fun k _ e => by simp at e), h.notes.moves m (fun k _ e => by simp at e)⟩

theorem Inv.alloc {own : Nat → Tag} {w1 w : World} {R D : Nat} {pS lS vF vT vC : Value} {fuel : Int} {F : List (Fr × Value)} {l data told : List Int} {C : List (Rec × Value)} (h : Inv own w1 w R D pS lS vF vT vC fuel F l data told C)
    (o : Obj) : Inv own w1 (w.alloc o) R D pS lS vF vT vC fuel F l data told C := h.moves (Moves.alloc own w o _)

section
variable {own own' : Nat → Tag} {w1 w w' : World} {R D : Nat} {pS lS vF vT vC : Value} {fuel : Int} {f : Fr} {v : Value} {F : List (Fr × Value)} {l data told : List Int} {C : List (Rec × Value)}

theorem Inv.fuel_set (h : Inv own w1 w R D pS lS vF vT vC fuel F l data told C) (n : Int) : Inv own w1 (w.setCell ⟨R, 3, none⟩ (.int .i64 n)) R D pS lS vF vT vC n F l data told C := by
  have m := Moves.setCell own w R 3 (.int .i64 n) h.run.tag
  exact ⟨h.base.moves m (by decide), h.run.set 3 _, h.dat.moves m (by decide), h.frames.moves m (by decide), h.told.moves m (by decide), h.calls.moves m (by decide),
    h.rooms.moves m (fun k _ e => by simp at e), h.notes.moves m (fun k _ e => by simp at e)⟩

/-- where the frames lie -/
theorem Inv.frames_form (h : Inv own w1 w R D pS lS vF vT vC fuel ((f, v) :: F) l data told C) : ∃ g cap, vF = .slice (some ⟨g, 0, none⟩) (F.length + 1) cap ∧ own g = (3, 0) ∧ F.length + 1 ≤ cap := by
  obtain ⟨g, cap, e, t, hc, _⟩ := h.frames.form (by simp)
  exact ⟨g, cap, by simpa using e, t, by simpa using hc⟩

theorem Inv.flat_len (h : Inv own w1 w R D pS lS vF vT vC fuel ((f, v) :: F) l data told C) : (flat F).length = F.length * 12 := Rooms.flat_length h.rooms.2

/-- a cell of the last frame -/
theorem Inv.top_cell {g cap : Nat} (h : Inv own w1 w R D pS lS (.slice (some ⟨g, 0, none⟩) (F.length + 1) cap) vT vC fuel ((f, v) :: F) l data told C) (j : Nat) {u : Value} (hu : (frCells f v)[j]? = some u) :
    w.cell? ⟨g, F.length * 12 + j, none⟩ = some u := by
  have hf := h.frames
  simp only [List.length_cons] at hf
  refine hf.cell _ ?_
  rw [flat, List.getElem?_append_right (by rw [h.flat_len]; omega), h.flat_len, Nat.add_sub_cancel_left]
  exact hu

theorem Inv.top_frozen {g cap : Nat} (h : Inv own w1 w R D pS lS (.slice (some ⟨g, 0, none⟩) (F.length + 1) cap) vT vC fuel ((f, v) :: F) l data told C) (j : Nat) : w.frozen? ⟨g, j, none⟩ = false := by
  have hf := h.frames
  simp only [List.length_cons] at hf
  exact hf.frozen j

theorem Inv.top_set {g cap : Nat} {f' : Fr} {v' : Value} {l' : List Int} (h : Inv own w1 w R D pS lS (.slice (some ⟨g, 0, none⟩) (F.length + 1) cap) vT vC fuel ((f, v) :: F) l data told C) (j : Nat) (u : Value)
    (hu : (frCells f v).set j u = frCells f' v') (hp : WordsAt own w v' f'.words l' (6, F.length) ∧ f'.locals.length = 8) :
    Inv own w1 (w.setCell ⟨g, F.length * 12 + j, none⟩ u) R D pS lS (.slice (some ⟨g, 0, none⟩) (F.length + 1) cap) vT vC fuel ((f', v') :: F) l' data told C := by
  have hf := h.frames
  simp only [List.length_cons] at hf
  have m := Moves.setCell own w g (F.length * 12 + j) u (hf.tag g rfl)
  refine ⟨h.base.moves m (by decide), h.run.moves m (by decide), h.dat.moves m (by decide), ?_, h.told.moves m (by decide), h.calls.moves m (by decide),
    ⟨⟨hp.1.moves m (fun e => by simp at e), hp.2⟩, Rooms.moves m h.rooms.2 (fun k _ e => by simp at e)⟩, h.notes.moves m (fun k _ e => by simp at e)⟩
  have := hf.set (F.length * 12 + j) u
  rw [flat, List.set_append_right _ _ (by rw [h.flat_len]; omega), h.flat_len, Nat.add_sub_cancel_left, hu] at this
  exact this

/-- words put behind those of the last frame: w': behind the append -/
theorem Inv.put_set {g cap : Nat} {v' : Value} {news : List Int} (h : Inv own w1 w R D pS lS (.slice (some ⟨g, 0, none⟩) (F.length + 1) cap) vT vC fuel ((f, v) :: F) l data told C)
    (hg : w.grownBy w' v.ownBlock) (hn : v'.ownBlock = v.ownBlock ∨ v'.ownBlock = some w.heap.size) (ho : w'.ownsRow 0 3 1 v' (f.words.length + news.length) (ints f.words ++ ints news)) :
    Inv (also own w.heap.size (6, F.length)) w1 (w'.setCell ⟨g, F.length * 12 + 10, none⟩ v') R D pS lS (.slice (some ⟨g, 0, none⟩) (F.length + 1) cap) vT vC fuel (({ f with words := f.words ++ news }, v') :: F) [] data told C := by
  have hW := h.rooms.1.1.owned
  have m := Moves.grown (t := (6, F.length)) hW.tag hg
  have hf := h.frames.moves m (by simp)
  have hO : Owned (also own w.heap.size (6, F.length)) w' 3 1 v' (f.words ++ news).length (ints (f.words ++ news)) (6, F.length) := ⟨by simpa [ints] using ho, also_tag hW.tag hn⟩
  simp only [List.length_cons] at hf
  have m2 := Moves.setCell (also own w.heap.size (6, F.length)) w' g (F.length * 12 + 10) v' (hf.tag g rfl)
  refine ⟨(h.base.moves m (by simp)).moves m2 (by decide), (h.run.moves m (by simp)).moves m2 (by decide), (h.dat.moves m (by simp)).moves m2 (by decide), ?_, (h.told.moves m (by simp)).moves m2 (by decide), (h.calls.moves m (by simp)).moves m2 (by decide),
    ⟨⟨(WordsAt.of hO).moves m2 (fun e => by simp at e), h.rooms.1.2⟩, Rooms.moves m2 (Rooms.moves m h.rooms.2 (fun k hk e => by simp at e; omega)) (fun k _ e => by simp at e)⟩, (h.notes.moves m (fun k _ e => by simp at e)).moves m2 (fun k _ e => by simp at e)⟩
  have := hf.set (F.length * 12 + 10) v'
  have e : (frCells f v).set 10 v' = frCells { f with words := f.words ++ news } v' := by
    have h8 := h.rooms.1.2
    simp only [frCells, List.set_cons_succ]
    rw [List.set_append_right _ _ (by simp [ints, h8]), ints_length, h8]
    rfl
  rw [flat, List.set_append_right _ _ (by rw [h.flat_len]; omega), h.flat_len, Nat.add_sub_cancel_left, e] at this
  exact this

/-- one word more is told: w': behind the append -/
theorem Inv.told_set {v' : Value} {n : Int} (h : Inv own w1 w R D pS lS vF vT vC fuel F l data told C)
    (hg : w.grownBy w' vT.ownBlock) (hn : v'.ownBlock = vT.ownBlock ∨ v'.ownBlock = some w.heap.size) (ho : w'.ownsRow 0 3 1 v' (told.length + 1) (ints told ++ [.int .i64 n])) :
    Inv (also own w.heap.size (4, 0)) w1 (w'.setCell ⟨R, 6, none⟩ v') R D pS lS vF v' vC fuel F l data (told ++ [n]) C := by
  have m := Moves.grown (t := (4, 0)) h.told.tag hg
  have hO : Owned (also own w.heap.size (4, 0)) w' 3 1 v' (told ++ [n]).length (ints (told ++ [n])) (4, 0) := ⟨by simpa [ints] using ho, also_tag h.told.tag hn⟩
  have hr := h.run.moves m (by decide)
  have m2 := Moves.setCell (also own w.heap.size (4, 0)) w' R 6 v' hr.tag
  exact ⟨(h.base.moves m (by decide)).moves m2 (by decide), hr.set 6 v', (h.dat.moves m (by decide)).moves m2 (by decide), (h.frames.moves m (by decide)).moves m2 (by decide), hO.moves m2 (by decide), (h.calls.moves m (by decide)).moves m2 (by decide),
    (h.rooms.moves m (fun k _ e => by simp at e)).moves m2 (fun k _ e => by simp at e), (h.notes.moves m (fun k _ e => by simp at e)).moves m2 (fun k _ e => by simp at e)⟩

/-- a frame more: w': behind the append -/
theorem Inv.enter_set {v' : Value} {g : Fr} (h : Inv own w1 w R D pS lS vF vT vC fuel F l data told C) (hgw : g.words = []) (hgl : g.locals.length = 8)
    (hg : w.grownBy w' vF.ownBlock) (hn : v'.ownBlock = vF.ownBlock ∨ v'.ownBlock = some w.heap.size) (ho : w'.ownsRow 0 85 12 v' (F.length + 1) (flat F ++ frCells g (.slice none 0 0))) :
    Inv (also own w.heap.size (3, 0)) w1 (w'.setCell ⟨R, 2, none⟩ v') R D pS lS v' vT vC fuel ((g, .slice none 0 0) :: F) [] data told C := by
  have m := Moves.grown (t := (3, 0)) h.frames.tag hg
  have hO : Owned (also own w.heap.size (3, 0)) w' 85 12 v' ((g, Value.slice none 0 0) :: F).length (flat ((g, .slice none 0 0) :: F)) (3, 0) := ⟨ho, also_tag h.frames.tag hn⟩
  have hr := h.run.moves m (by decide)
  have m2 := Moves.setCell (also own w.heap.size (3, 0)) w' R 2 v' hr.tag
  exact ⟨(h.base.moves m (by decide)).moves m2 (by decide), hr.set 2 v', (h.dat.moves m (by decide)).moves m2 (by decide), hO.moves m2 (by decide), (h.told.moves m (by decide)).moves m2 (by decide), (h.calls.moves m (by decide)).moves m2 (by decide),
    ⟨⟨.inl ⟨rfl, hgw, rfl⟩, hgl⟩, ((h.rooms.rooms.moves m (fun k _ e => by simp at e)).moves m2 (fun k _ e => by simp at e))⟩, (h.notes.moves m (fun k _ e => by simp at e)).moves m2 (fun k _ e => by simp at e)⟩

/-- a word of the data -/
theorem Inv.data_set {k : Nat} {x : Int} (h : Inv own w1 w R D pS lS vF vT vC fuel F l data told C) :
    Inv own w1 (w.setCell ⟨D, k, none⟩ (.int .i64 x)) R D pS lS vF vT vC fuel F l (data.set k x) told C := by
  have m := Moves.setCell own w D k (.int .i64 x) (h.dat.tag D rfl)
  refine ⟨h.base.moves m (by decide), ?_, ?_, h.frames.moves m (by decide), h.told.moves m (by decide), h.calls.moves m (by decide),
    h.rooms.moves m (fun k _ e => by simp at e), h.notes.moves m (fun k _ e => by simp at e)⟩
  · rw [List.length_set]
    exact h.run.moves m (by decide)
  · have := h.dat.set k (.int .i64 x)
    rw [List.length_set]
    have e : (ints data).set k (.int .i64 x) = ints (data.set k x) := by simp [ints]
    rw [← e]
    exact this

/-- new memory alone -/
theorem Moves.below {own own' : Nat → Tag} {w w' : World} (h : Below w.heap.size w w') (ht : ∀ k, k < w.heap.size → own' k = own k) (t : Tag) : Moves own own' w w' t :=
  ⟨h.os, h.tape, h.output, h.size, fun k hk _ => h.block k hk, ht⟩

theorem recCells_length (r : Rec) (v : Value) : (recCells r v).length = 7 := rfl
theorem flatC_cons (p : Rec × Value) (C : List (Rec × Value)) : flatC (p :: C) = recCells p.1 p.2 ++ flatC C := rfl
theorem flatC_append (C C' : List (Rec × Value)) : flatC (C ++ C') = flatC C ++ flatC C' := by simp [flatC]
theorem flatC_length : ∀ C : List (Rec × Value), (flatC C).length = C.length * 7
  | [] => rfl
  | p :: C => by rw [flatC_cons, List.length_append, recCells_length, flatC_length C, List.length_cons]; omega

theorem flatC_set {j : Nat} (hj : j < 7) {u : Value} : ∀ {C : List (Rec × Value)} {k : Nat} {r r' : Rec} {v v' : Value}, C[k]? = some (r, v) → (recCells r v).set j u = recCells r' v' → (flatC C).set (k * 7 + j) u = flatC (C.set k (r', v'))
  | [], k, r, r', v, v', h, _ => by simp at h
  | p :: C, 0, r, r', v, v', h, hs => by
    simp only [List.getElem?_cons_zero, Option.some.injEq] at h
    subst h
    rw [flatC_cons, List.set_append_left _ _ (by rw [recCells_length]; omega), List.set_cons_zero, flatC_cons, Nat.zero_mul, Nat.zero_add, hs]
  | p :: C, k + 1, r, r', v, v', h, hs => by
    rw [List.getElem?_cons_succ] at h
    rw [flatC_cons, List.set_append_right _ _ (by rw [recCells_length]; omega), recCells_length, show (k + 1) * 7 + j - 7 = k * 7 + j by omega, flatC_set hj h hs, List.set_cons_succ, flatC_cons]

theorem flatC_at {j : Nat} (hj : j < 7) : ∀ {C : List (Rec × Value)} {k : Nat} {r : Rec} {v : Value}, C[k]? = some (r, v) → (flatC C)[k * 7 + j]? = (recCells r v)[j]?
  | [], k, r, v, h => by simp at h
  | p :: C, 0, r, v, h => by
    simp only [List.getElem?_cons_zero, Option.some.injEq] at h
    subst h
    rw [flatC_cons, List.getElem?_append_left (by rw [recCells_length]; omega), Nat.zero_mul, Nat.zero_add]
  | p :: C, k + 1, r, v, h => by
    rw [List.getElem?_cons_succ] at h
    rw [flatC_cons, List.getElem?_append_right (by rw [recCells_length]; omega), recCells_length, show (k + 1) * 7 + j - 7 = k * 7 + j by omega, flatC_at hj h]

/-- a call more is noted: w': behind the append; va: the copy of its words -/
theorem Inv.note_set {v' va : Value} {r : Rec} (h : Inv own w1 w R D pS lS vF vT vC fuel F l data told C) (ha : Owned own w 3 1 va r.args.length (ints r.args) (7, C.length))
    (hg : w.grownBy w' vC.ownBlock) (hn : v'.ownBlock = vC.ownBlock ∨ v'.ownBlock = some w.heap.size) (ho : w'.ownsRow 0 76 7 v' (C.length + 1) (flatC C ++ recCells r va)) :
    Inv (also own w.heap.size (5, 0)) w1 (w'.setCell ⟨R, 8, none⟩ v') R D pS lS vF vT v' fuel F l data told (C ++ [(r, va)]) := by
  have m := Moves.grown (t := (5, 0)) h.calls.tag hg
  have hO : Owned (also own w.heap.size (5, 0)) w' 76 7 v' (C ++ [(r, va)]).length (flatC (C ++ [(r, va)])) (5, 0) := ⟨by rw [flatC_append]; simpa [flatC] using ho, also_tag h.calls.tag hn⟩
  have hr := h.run.moves m (by decide)
  have m2 := Moves.setCell (also own w.heap.size (5, 0)) w' R 8 v' hr.tag
  have ha2 := (ha.moves m (by simp)).moves m2 (by simp)
  have hn2 := (h.notes.moves m (fun k _ e => by simp at e)).moves m2 (fun k _ e => by simp at e)
  refine ⟨(h.base.moves m (by decide)).moves m2 (by decide), hr.set 8 v', (h.dat.moves m (by decide)).moves m2 (by decide), (h.frames.moves m (by decide)).moves m2 (by decide), (h.told.moves m (by decide)).moves m2 (by decide), hO.moves m2 (by decide),
    (h.rooms.moves m (fun k _ e => by simp at e)).moves m2 (fun k _ e => by simp at e), fun k r' v'' hk => ?_⟩
  by_cases hlt : k < C.length
  · rw [List.getElem?_append_left hlt] at hk
    exact hn2 k r' v'' hk
  · have h1 := (List.getElem?_eq_some_iff.1 hk).1
    simp only [List.length_append, List.length_cons, List.length_nil] at h1
    obtain rfl : k = C.length := by omega
    simp only [List.getElem?_concat_length, Option.some.injEq, Prod.mk.injEq] at hk
    obtain ⟨rfl, rfl⟩ := hk
    exact ha2

/-- a call that was noted is done -/
theorem Inv.calls_set {g cap k j : Nat} {r r' : Rec} {va u : Value} (h : Inv own w1 w R D pS lS vF vT (.slice (some ⟨g, 0, none⟩) C.length cap) fuel F l data told C) (hk : C[k]? = some (r, va)) (hj : j < 7) (hu : (recCells r va).set j u = recCells r' va) (hr : r'.args = r.args) :
    Inv own w1 (w.setCell ⟨g, k * 7 + j, none⟩ u) R D pS lS vF vT (.slice (some ⟨g, 0, none⟩) C.length cap) fuel F l data told (C.set k (r', va)) := by
  have m := Moves.setCell own w g (k * 7 + j) u (h.calls.tag g rfl)
  have hn := h.notes.moves m (fun k _ e => by simp at e)
  refine ⟨h.base.moves m (by decide), h.run.moves m (by decide), h.dat.moves m (by decide), h.frames.moves m (by decide), h.told.moves m (by decide), ?_, h.rooms.moves m (fun k _ e => by simp at e), fun i r'' v'' hi => ?_⟩
  · have := h.calls.set (k * 7 + j) u
    rw [flatC_set hj hk hu] at this
    rw [List.length_set]
    exact this
  · by_cases e : k = i
    · subst e
      rw [List.getElem?_set_self (List.getElem?_eq_some_iff.1 hk).1] at hi
      simp only [Option.some.injEq, Prod.mk.injEq] at hi
      obtain ⟨rfl, rfl⟩ := hi
      rw [hr]
      exact hn k r va hk
    · rw [List.getElem?_set_ne e] at hi
      exact hn i r'' v'' hi

/-- the last frame is gone -/
theorem Inv.pop_set {g cap : Nat} (h : Inv own w1 w R D pS lS (.slice (some ⟨g, 0, none⟩) (F.length + 1) cap) vT vC fuel ((f, v) :: F) l data told C) :
    Inv own w1 (w.setCell ⟨R, 2, none⟩ (.slice (some ⟨g, 0, none⟩) F.length cap)) R D pS lS (.slice (some ⟨g, 0, none⟩) F.length cap) vT vC fuel F [] data told C := by
  have hf := h.frames
  simp only [List.length_cons] at hf
  have hO : Owned own w 85 12 (.slice (some ⟨g, 0, none⟩) F.length cap) F.length (flat F) (3, 0) := ⟨ownsRow_pop h.flat_len hf.row, hf.tag⟩
  have m := Moves.setCell own w R 2 (.slice (some ⟨g, 0, none⟩) F.length cap) h.run.tag
  exact ⟨h.base.moves m (by decide), h.run.set 2 _, h.dat.moves m (by decide), hO.moves m (by decide), h.told.moves m (by decide), h.calls.moves m (by decide),
    (Rooms.moves m h.rooms.2 (fun k _ e => by simp at e)).pend, h.notes.moves m (fun k _ e => by simp at e)⟩

/-- a run that has ended, with a value -/
structure Fin (own : Nat → Tag) (w1 w : World) (R D : Nat) (pS lS vT vC : Value) (val : Int) (data told : List Int) (C : List (Rec × Value)) : Prop where
  base : Base own w1 w R D
  run : ∃ fv fu, Block own w R #[pS, lS, fv, fu, .int .i64 0, .int .i64 val, vT, .slice (some ⟨D, 0, none⟩) data.length data.length, vC] 68 (1, 0)
  dat : Owned own w 3 1 (.slice (some ⟨D, 0, none⟩) data.length data.length) data.length (ints data) (2, 0)
  told : Owned own w 3 1 vT told.length (ints told) (4, 0)
  calls : Owned own w 76 7 vC C.length (flatC C) (5, 0)
  notes : Notes own w C

theorem Inv.fin (h : Inv own w1 w R D pS lS vF vT vC fuel F l data told C) : Fin own w1 w R D pS lS vT vC 0 data told C := ⟨h.base, ⟨_, _, h.run⟩, h.dat, h.told, h.calls, h.notes⟩

theorem Inv.fin_set (h : Inv own w1 w R D pS lS vF vT vC fuel F l data told C) (x : Int) : Fin own w1 (w.setCell ⟨R, 5, none⟩ (.int .i64 x)) R D pS lS vT vC x data told C := by
  have m := Moves.setCell own w R 5 (.int .i64 x) h.run.tag
  exact ⟨h.base.moves m (by decide), ⟨_, _, h.run.set 5 _⟩, h.dat.moves m (by decide), h.told.moves m (by decide), h.calls.moves m (by decide), h.notes.moves m (fun k _ e => by simp at e)⟩
end
end Go.Proofs.YtmmcpjmgindpkacDoor.Inv
