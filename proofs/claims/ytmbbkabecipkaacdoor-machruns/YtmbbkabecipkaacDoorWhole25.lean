/-
  RunOf, A ROUND: words are put behind those of a room; the round's end.
  Conditions: each theorem's own hypotheses.
-/
import Derived.Test.YtmbbkabecipkaacDoorWhole24
namespace Go.Proofs.YtmbbkabecipkaacDoor.RFinish
open Go.RowKit Tab Go.Proofs.YtmbbkabecipkaacDoor.Check Lists Go.Proofs.YtmbbkabecipkaacDoor.Read Img Mach Own Go.Proofs.YtmbbkabecipkaacDoor.Inv RunBad RunNot RInv RSlot REnds Take MRun RPart RTake
set_option linter.unusedVariables false

theorem append_zero (w : World) (ty : TypeId) (i : TypeInfo) (hi : Tryd.prog.info? 3 = some i) (hsz : i.size = 1) (aw : Option Addr) (n cw : Nat) (hc : n ≤ cw) (h0 : aw = none → n = 0 ∧ cw = 0) (da : Option Addr) (c : Nat) :
    (Builtin.append_ #[29, 29] ty #[.slice aw n cw, .slice da 0 c]).run Tryd.prog w = .ok (.slice aw n cw) w := by
  cases aw with
  | none =>
    obtain ⟨rfl, rfl⟩ := h0 rfl
    cases da <;> simp [Builtin.append_, Builtin.lenOf, Builtin.firstCells, run_underlying Tryd.underlying29, sizeOf, typeInfo, hi, loadCells, loadCellsFrom, Result.andThen]
  | some ad =>
    cases da <;> simp [Builtin.append_, Builtin.lenOf, Builtin.firstCells, run_underlying Tryd.underlying29, sizeOf, typeInfo, hi, loadCells, loadCellsFrom, storeCells, Result.andThen, hc]

theorem wpList_append_zero {ops : Array Oper} {rest : List Oper} {o : Oper} {a : Act} {w : World} {Q : Exit → Act → World → Prop}
    (hg : o.guard = none) (s x : Operand) (hop : o.op = Op.call { callee := Callee.builtin Builtin.append, args := #[s, x], argTypes := #[29, 29] }) (aw : Option Addr) (n cw : Nat) (hs : a.eval s = .slice aw n cw) (hc : n ≤ cw) (h0 : aw = none → n = 0 ∧ cw = 0)
    (da : Option Addr) (c : Nat) (hx : a.eval x = .slice da 0 c) (h : wpList Tryd.prog ops Q rest (a.put o.dst (.slice aw n cw)) w) : wpList Tryd.prog ops Q (o :: rest) a w := by
  refine wpList_plain hg fun K hK => ?_
  obtain ⟨i0, hi, hz0, hz1, hz2⟩ := info_parts info3
  have hrun := append_zero w o.type i0 hi hz1 aw n cw hc h0 da c
  unfold Oper.wp
  simp [execOp, hop, resolve, invoke, builtin, hs, hx, hrun, Result.andThen]
  exact hK _ _ h

/-- how a row of words stands in its slice -/
theorem words_form {own : Nat → Tag} {w : World} {v : Value} {ws : List Int} {t : Tag} (h : Owned own w 3 1 v ws.length (ints ws) t) : ∃ aw cw, v = .slice aw ws.length cw ∧ ws.length ≤ cw ∧ (aw = none → ws.length = 0 ∧ cw = 0) := by
  rcases h.row.2 with ⟨rfl, h0⟩ | ⟨g, cap, cur, rfl, _, _, hc, _⟩
  · exact ⟨none, 0, by rw [h0], by omega, fun _ => ⟨h0, rfl⟩⟩
  · exact ⟨_, _, rfl, hc, fun e => by cases e⟩

/-- a cell of the room behind the last one is set to what it is -/
theorem second_set {own : Nat → Tag} {w1 w : World} {bO b bg : Nat} {vR vT vD vC v vg : Value} {f g : Fr} {G : List (Fr × Nat × Value)} {data told : List Int} {C : List (Rec × Value)} (h : RInv own w1 w bO vR vT vD vC ((g, bg, vg) :: (f, b, v) :: G) data told C) :
    RInv own w1 (w.setCell ⟨b, 10, none⟩ v) bO vR vT vD vC ((g, bg, vg) :: (f, b, v) :: G) data told C := by
  have h2 := h.rooms.2.1
  have mv := Moves.setCell own w b 10 v h2.1.tag
  have hb := h2.1.set 10 v
  rw [show (frCells f v).toArray.setIfInBounds 10 v = (frCells f v).toArray by rw [List.setIfInBounds_toArray, frCells_words h2.2.2 f.words v]] at hb
  exact ⟨h.base.moves mv (by simp), h.out.moves mv (by simp), h.dat.moves mv (by simp), h.row.moves mv (by simp), h.told.moves mv (by simp), h.calls.moves mv (by simp),
    ⟨⟨h.rooms.1.1.moves mv (by simp), h.rooms.1.2.1.moves mv (by simp), h.rooms.1.2.2⟩, ⟨⟨hb, h2.2.1.moves mv (by simp), h2.2.2⟩, h.rooms.2.2.moves mv (fun k hk => ⟨by simp, by simp; omega⟩)⟩⟩, h.notes.moves mv (fun k _ => by simp)⟩

set_option maxRecDepth 1000000 in
set_option maxHeartbeats 4000000 in
/-- too many words -/
theorem full {A : Array Value} {fuel : Int} {bM bR bO : Nat} {vR v19 v20 v21 v22 v23 v24 v25 v28 : Value} {w w1 wr : World} {own : Nat → Tag} {vT vD vC : Value} {G : List (Fr × Nat × Value)} {f : Fr} {b : Nat} {v : Value} {data told : List Int} {C : List (Rec × Value)} {R : Act → World → Prop} {K0 K2 : Act → World → Prop} {R0 : Ending → World → Prop} {r : Int × Int × St} {rm : List Fr} {back : List Int} {ab : Option Addr} {cb_ : Nat} (hs : Sl A fuel bM bR bO vR (.pointer (some ⟨b, 0, none⟩)) v20 v21 v22 v23 v24 (.slice ab back.length cb_) v28) (h : RInv own w1 wr bO vR vT vD vC ((f, b, v) :: G) data told C) (hw : f.words.length ≤ 40) (hbk : back.length ≤ 2) (hf : ¬ f.words.length + back.length ≤ 40) (hT : Begun w w1 bR) (hr : (4, 0, (⟨rm, data, told, C.map Prod.fst⟩ : St)) = r) (hR0 : R0 = Gave w r) :
    Code.wp Tryd.prog (RInv.behind 15 (RInv.inside (RInv.behind 1 (((Tryd.f15.body.map RInv.loops).getD []).getD 1 .skip)))) (Exit.inBlock 3 (Exit.then K0 (Exit.inBlock 2 (Exit.then K2 (bodyPost Tryd.prog Tryd.f15 R0))))) ⟨A, []⟩ wr := by
  obtain ⟨u, rfl⟩ := fold hs
  obtain ⟨aw, cw, rfl, hcw, haw⟩ := words_form h.rooms.1.2.1
  have cb := h.rooms.1.1.cell 10 (v := .slice aw f.words.length cw) (by have := h.rooms.1.2.2; simp [frCells, ints, this])
  have zb := h.rooms.1.1.frozen 10
  subst hR0
  obtain ⟨a1, x1, rfl⟩ := owned_form h.told
  obtain ⟨a2, x2, rfl⟩ := owned_form h.dat
  obtain ⟨a3, x3, rfl⟩ := owned_form h.calls
  have hz := zero_set h hT 0 (.int .i64 4)
  have q0 := h.out.cell 0 (v := .int .i64 0) rfl
  have q1 := h.out.cell 1 (v := .int .i64 0) rfl
  have q2 := h.out.cell 2 (v := .slice a1 told.length x1) rfl
  have q3 := h.out.cell 3 (v := .slice a2 data.length x2) rfl
  have q4 := h.out.cell 4 (v := .slice a3 C.length x3) rfl
  have z0 := h.out.frozen 0
  have one := ones (a := 4) (b := 0) (rfl : Value.slice a1 told.length x1 = _) (rfl : Value.slice a2 data.length x2 = _) (rfl : Value.slice a3 C.length x3 = _)
  have fin : ∀ W : World, W.os = wr.os → W.tape = wr.tape → W.output = wr.output → W.heap = (wr.setCell ⟨bO, 0, none⟩ (.int .i64 4)).heap → Gave w r (.returned (.tuple #[.agg #[.int .i64 4, .int .i64 0, .slice a1 told.length x1, .slice a2 data.length x2, .slice a3 C.length x3], .int .i64 0])) (W.setRow bR #[.int .i64 4, .int .i64 0, .slice a1 told.length x1, .slice a2 data.length x2, .slice a3 C.length x3]) := fun W e0 e1 e2 e3 =>
    REnds.gave h hT ((Moves.setCell own wr bO 0 (.int .i64 4) h.out.tag).trans (same_moves (w := wr.setCell ⟨bO, 0, none⟩ (.int .i64 4)) e0 e1 e2 e3 _)) _ hr
  obtain ⟨nT, eT⟩ : ∃ n, n = told.length := ⟨_, rfl⟩
  obtain ⟨nD, eD⟩ : ∃ n, n = data.length := ⟨_, rfl⟩
  obtain ⟨nC, eC⟩ : ∃ n, n = C.length := ⟨_, rfl⟩
  rw [← eT] at q2 one fin
  rw [← eD] at q3 one fin
  rw [← eC] at q4 one fin
  have hz' : ∀ W : World, W.heap = (wr.setCell ⟨bO, 0, none⟩ (.int .i64 4)).heap → W.heap[bR]? = some (.cells zero 41 (0, 0)) := fun W e3 => by rw [e3]; exact hz
  have HZ : Hid _ := hz'
  have ONE : Hid _ := one
  have FEND : Hid _ := fin
  clear hz hz' one fin hT hr eT eD eC
  obtain ⟨k, ek⟩ : ∃ x, x = f.words.length := ⟨_, rfl⟩
  obtain ⟨m, em⟩ : ∃ x, x = back.length := ⟨_, rfl⟩
  rw [← ek] at cb hw hf
  rw [← em] at hf hbk ⊢
  have h1I : (k : Int) ≤ 40 := by omega
  have h2I : (m : Int) ≤ 2 := by omega
  have h3I : (40 : Int) < (k : Int) + m := by omega
  clear hs h ek em hw hf hbk hcw haw
  conv => arg 2; whnf
  go_wp2_with ((with_reducible show wpList _ _ _ ({ dst := none, op := Op.store 41 _ _, type := _, pos := _, after := _, guard := _ } :: _) _ _); refine wpList_store_row rfl 41 _ _ rfl bR #[.int .i64 4, .int .i64 0, .slice a1 nT x1, .slice a2 nD x2, .slice a3 nC x3] rfl rfl 41 zero (HZ.out _ rfl) size41 rfl ONE.out ?_)
  · refine bodyPost_ret (results5 _ _ bR #[.int .i64 4, .int .i64 0, .slice a1 nT x1, .slice a2 nD x2, .slice a3 nC x3] 41 (0, 0) _ rfl rfl (setRow_heap _ _ _ _ _ _ (HZ.out _ rfl)) rfl) rfl ?_
    exact FEND.out _ rfl rfl rfl rfl

set_option maxRecDepth 1000000 in
set_option maxHeartbeats 4000000 in
/-- nothing is put -/
theorem none_ {A : Array Value} {fuel : Int} {bM bR bO : Nat} {vR v19 v20 v21 v22 v23 v24 v25 v28 : Value} {w w1 wr : World} {own : Nat → Tag} {vT vD vC : Value} {G : List (Fr × Nat × Value)} {f : Fr} {b : Nat} {v : Value} {data told : List Int} {C : List (Rec × Value)} {R : Act → World → Prop} {K0 K2 : Act → World → Prop} {R0 : Ending → World → Prop} {r : Int × Int × St} {rm : List Fr} (hs : Sl A fuel bM bR bO vR (.pointer (some ⟨b, 0, none⟩)) v20 v21 v22 v23 v24 (.slice none 0 0) v28) (h : RInv own w1 wr bO vR vT vD vC ((f, b, v) :: G) data told C) (hw : f.words.length ≤ 40)
    (hK : ∀ A' W, Sl A' fuel bM bR bO vR (.pointer (some ⟨b, 0, none⟩)) v20 v21 v22 v23 v24 (.slice none 0 0) v28 → RInv own w1 W bO vR vT vD vC ((f, b, v) :: G) data told C → K0 ⟨A', []⟩ W) :
    Code.wp Tryd.prog (RInv.behind 15 (RInv.inside (RInv.behind 1 (((Tryd.f15.body.map RInv.loops).getD []).getD 1 .skip)))) (Exit.inBlock 3 (Exit.then K0 (Exit.inBlock 2 (Exit.then K2 (bodyPost Tryd.prog Tryd.f15 R0))))) ⟨A, []⟩ wr := by
  obtain ⟨u, rfl⟩ := fold hs
  obtain ⟨aw, cw, rfl, hcw, haw⟩ := words_form h.rooms.1.2.1
  have cb := h.rooms.1.1.cell 10 (v := .slice aw f.words.length cw) (by have := h.rooms.1.2.2; simp [frCells, ints, this])
  have zb := h.rooms.1.1.frozen 10
  have fin : ∀ A', Sl A' fuel bM bR bO vR (.pointer (some ⟨b, 0, none⟩)) v20 v21 v22 v23 v24 (.slice none 0 0) v28 → K0 ⟨A', []⟩ (wr.setCell ⟨b, 10, none⟩ (.slice aw f.words.length cw)) := fun A' hs' => hK A' _ hs' (h.words_set (Moves.refl _ _ _) h.rooms.1.2.1)
  obtain ⟨k, ek⟩ : ∃ x, x = f.words.length := ⟨_, rfl⟩
  rw [← ek] at cb hw hcw haw fin
  have h1I : (k : Int) ≤ 40 := by omega
  have FIN : Hid _ := fin
  have HCW : Hid (k ≤ cw) := hcw
  have HAW : Hid (aw = none → k = 0 ∧ cw = 0) := haw
  clear hs h ek hw fin hK hcw haw
  conv => arg 2; whnf
  go_wp2_with (at_builtin; refine wpList_append_zero rfl (.tmp 542) (.tmp 543) rfl aw k cw rfl HCW.out HAW.out none 0 rfl ?_)
  exact FIN.out _ ⟨rfl, rfl, rfl, rfl, rfl, rfl, rfl, rfl, rfl, rfl, rfl, rfl, rfl, rfl, rfl⟩

set_option maxRecDepth 1000000 in
set_option maxHeartbeats 4000000 in
/-- nothing is put, of the room behind the last one -/
theorem none_2 {A : Array Value} {fuel : Int} {bM bR bO : Nat} {vR v19 v20 v21 v22 v23 v24 v25 v28 : Value} {w w1 wr : World} {own : Nat → Tag} {vT vD vC : Value} {G : List (Fr × Nat × Value)} {f : Fr} {b : Nat} {v : Value} {data told : List Int} {C : List (Rec × Value)} {R : Act → World → Prop} {K0 K2 : Act → World → Prop} {R0 : Ending → World → Prop} {r : Int × Int × St} {rm : List Fr} {g : Fr} {bg : Nat} {vg : Value} (hs : Sl A fuel bM bR bO vR (.pointer (some ⟨b, 0, none⟩)) v20 v21 v22 v23 v24 (.slice none 0 0) v28) (h : RInv own w1 wr bO vR vT vD vC ((g, bg, vg) :: (f, b, v) :: G) data told C) (hw : f.words.length ≤ 40)
    (hK : ∀ A' W, Sl A' fuel bM bR bO vR (.pointer (some ⟨b, 0, none⟩)) v20 v21 v22 v23 v24 (.slice none 0 0) v28 → RInv own w1 W bO vR vT vD vC ((g, bg, vg) :: (f, b, v) :: G) data told C → K0 ⟨A', []⟩ W) :
    Code.wp Tryd.prog (RInv.behind 15 (RInv.inside (RInv.behind 1 (((Tryd.f15.body.map RInv.loops).getD []).getD 1 .skip)))) (Exit.inBlock 3 (Exit.then K0 (Exit.inBlock 2 (Exit.then K2 (bodyPost Tryd.prog Tryd.f15 R0))))) ⟨A, []⟩ wr := by
  obtain ⟨u, rfl⟩ := fold hs
  obtain ⟨aw, cw, rfl, hcw, haw⟩ := words_form h.rooms.2.1.2.1
  have cb := h.rooms.2.1.1.cell 10 (v := .slice aw f.words.length cw) (by have := h.rooms.2.1.2.2; simp [frCells, ints, this])
  have zb := h.rooms.2.1.1.frozen 10
  have fin : ∀ A', Sl A' fuel bM bR bO vR (.pointer (some ⟨b, 0, none⟩)) v20 v21 v22 v23 v24 (.slice none 0 0) v28 → K0 ⟨A', []⟩ (wr.setCell ⟨b, 10, none⟩ (.slice aw f.words.length cw)) := fun A' hs' => hK A' _ hs' (second_set h)
  obtain ⟨k, ek⟩ : ∃ x, x = f.words.length := ⟨_, rfl⟩
  rw [← ek] at cb hw hcw haw fin
  have h1I : (k : Int) ≤ 40 := by omega
  have FIN : Hid _ := fin
  have HCW : Hid (k ≤ cw) := hcw
  have HAW : Hid (aw = none → k = 0 ∧ cw = 0) := haw
  clear hs h ek hw fin hK hcw haw
  conv => arg 2; whnf
  go_wp2_with (at_builtin; refine wpList_append_zero rfl (.tmp 542) (.tmp 543) rfl aw k cw rfl HCW.out HAW.out none 0 rfl ?_)
  exact FIN.out _ ⟨rfl, rfl, rfl, rfl, rfl, rfl, rfl, rfl, rfl, rfl, rfl, rfl, rfl, rfl, rfl⟩

set_option maxRecDepth 1000000 in
set_option maxHeartbeats 4000000 in
/-- words are put -/
theorem puts_ {A : Array Value} {fuel : Int} {bM bR bO : Nat} {vR v19 v20 v21 v22 v23 v24 v25 v28 : Value} {w w1 wr : World} {own : Nat → Tag} {vT vD vC : Value} {G : List (Fr × Nat × Value)} {f : Fr} {b : Nat} {v : Value} {data told : List Int} {C : List (Rec × Value)} {R : Act → World → Prop} {K0 K2 : Act → World → Prop} {R0 : Ending → World → Prop} {r : Int × Int × St} {rm : List Fr} {back : List Int} {gb cb_ : Nat} (hs : Sl A fuel bM bR bO vR (.pointer (some ⟨b, 0, none⟩)) v20 v21 v22 v23 v24 (.slice (some ⟨gb, 0, none⟩) back.length cb_) v28) (h : RInv own w1 wr bO vR vT vD vC ((f, b, v) :: G) data told C) (hbk : 0 < back.length) (hbk2 : back.length ≤ 2) (hsrc : ∀ j u, (ints back)[j]? = some u → wr.cell? ((⟨gb, 0, none⟩ : Addr).add j) = some u) (hf : f.words.length + back.length ≤ 40)
    (hK : ∀ A' own' W v', Sl A' fuel bM bR bO vR (.pointer (some ⟨b, 0, none⟩)) v20 v21 v22 v23 v24 (.slice (some ⟨gb, 0, none⟩) back.length cb_) v28 → RInv own' w1 W bO vR vT vD vC (({ f with words := f.words ++ back }, b, v') :: G) data told C → K0 ⟨A', []⟩ W) :
    Code.wp Tryd.prog (RInv.behind 15 (RInv.inside (RInv.behind 1 (((Tryd.f15.body.map RInv.loops).getD []).getD 1 .skip)))) (Exit.inBlock 3 (Exit.then K0 (Exit.inBlock 2 (Exit.then K2 (bodyPost Tryd.prog Tryd.f15 R0))))) ⟨A, []⟩ wr := by
  obtain ⟨u, rfl⟩ := fold hs
  obtain ⟨aw, cw, rfl, hcw, haw⟩ := words_form h.rooms.1.2.1
  have cb := h.rooms.1.1.cell 10 (v := .slice aw f.words.length cw) (by have := h.rooms.1.2.2; simp [frCells, ints, this])
  have zb := h.rooms.1.1.frozen 10
  obtain ⟨i0, hi, hz0, hz1, hz2⟩ := info_parts info3
  have hO := h.rooms.1.2.1
  have fin : ∀ A' g' c' W, Sl A' fuel bM bR bO vR (.pointer (some ⟨b, 0, none⟩)) v20 v21 v22 v23 v24 (.slice (some ⟨gb, 0, none⟩) back.length cb_) v28 → W.ownsRow 0 3 1 (.slice (some ⟨g', 0, none⟩) (f.words.length + back.length) c') (f.words.length + back.length) (ints f.words ++ ints back) → wr.grownBy W (Value.slice aw f.words.length cw).ownBlock → ((Value.slice (some ⟨g', 0, none⟩) (f.words.length + back.length) c').ownBlock = (Value.slice aw f.words.length cw).ownBlock ∨ (Value.slice (some ⟨g', 0, none⟩) (f.words.length + back.length) c').ownBlock = some wr.heap.size) → K0 ⟨A', []⟩ (W.setCell ⟨b, 10, none⟩ (.slice (some ⟨g', 0, none⟩) (f.words.length + back.length) c')) := fun A' g' c' W hs' ho hg hn =>
    hK A' _ _ _ hs' (h.words_set (ws := f.words ++ back) (Moves.grown (t := (6, G.length)) hO.tag hg) ⟨by rw [List.length_append, show ints (f.words ++ back) = ints f.words ++ ints back by simp [ints]]; exact ho, also_tag hO.tag hn⟩)
  have keep : ∀ W, wr.grownBy W (Value.slice aw f.words.length cw).ownBlock → W.cell? ⟨b, 10, none⟩ = some (.slice aw f.words.length cw) ∧ W.frozen? ⟨b, 10, none⟩ = false := fun W hg => by
    have hB := h.rooms.1.1.moves (Moves.grown (t := (6, G.length)) hO.tag hg) (by simp)
    exact ⟨hB.cell 10 (by have := h.rooms.1.2.2; simp [frCells, ints, this]), hB.frozen 10⟩
  have row : wr.ownsRow 0 3 1 (.slice aw f.words.length cw) f.words.length (ints f.words) := hO.row
  have ROW : Hid (wr.ownsRow 0 3 1 (.slice aw f.words.length cw) f.words.length (ints f.words)) := row
  have SRC : Hid _ := hsrc
  have ONE : Hid (∀ u ∈ ints back, u.oneCell' = true) := ints_oneCell .i64 back
  have HL : Hid ((ints back).length = back.length) := ints_length back
  obtain ⟨k, ek⟩ : ∃ x, x = f.words.length := ⟨_, rfl⟩
  obtain ⟨m, em⟩ : ∃ x, x = back.length := ⟨_, rfl⟩
  rw [← ek] at cb hf fin keep ROW
  rw [← em] at hf hbk hbk2 fin HL ⊢
  have h1I : (k : Int) + m ≤ 40 := by omega
  have h2I : (m : Int) ≤ 2 := by omega
  have h3I : (0 : Int) < m := by omega
  have FIN : Hid _ := fin
  have KEEP : Hid _ := keep
  have HB : Hid (0 < m) := hbk
  have HF : Hid (k + m ≤ 40) := hf
  obtain ⟨X, eX⟩ : ∃ X, X = ints back := ⟨_, rfl⟩
  obtain ⟨Y, eY⟩ : ∃ X, X = ints f.words := ⟨_, rfl⟩
  rw [← eX] at SRC ONE HL FIN
  rw [← eY] at ROW FIN
  clear hs h hO row ek em hf fin keep hK hcw haw hbk hbk2 hsrc eX eY
  conv => arg 2; whnf
  go_wp2_with (at_builtin; refine wpList_append_fresh wr rfl (.tmp 542) (.tmp 543) 29 rfl 0 3 i0 (.int .i64 0) 1 8 Tryd.underlying29 hi hz0 hz1 hz2 rfl (by decide) (.slice aw k cw) k Y rfl ROW.out ⟨gb, 0, none⟩ m cb_ HB.out X rfl (by rw [HL.out, Nat.mul_one]) SRC.out ONE.out (by have := HF.out; unfold maxLen; omega) (by have := HF.out; omega) (Nat.zero_le _) ?_; intro g' c' W ho hg hn; obtain ⟨d1, d2⟩ := KEEP.out W hg; have HO : Hid _ := ho; have HG : Hid _ := hg; have HN : Hid _ := hn; clear ho hg hn)
  exact FIN.out _ _ _ _ ⟨rfl, rfl, rfl, rfl, rfl, rfl, rfl, rfl, rfl, rfl, rfl, rfl, rfl, rfl, rfl⟩ HO.out HG.out HN.out
end Go.Proofs.YtmbbkabecipkaacDoor.RFinish
