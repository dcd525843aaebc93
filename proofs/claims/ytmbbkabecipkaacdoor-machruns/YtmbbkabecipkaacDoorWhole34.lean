/-
  RunOf, A ROUND: what an instruction does: what is told.
  Conditions: each theorem's own hypotheses.
-/
import Derived.Test.YtmbbkabecipkaacDoorWhole25
namespace Go.Proofs.YtmbbkabecipkaacDoor.RArmC
open Go.RowKit Tab Go.Proofs.YtmbbkabecipkaacDoor.Check Lists Go.Proofs.YtmbbkabecipkaacDoor.Read Img Mach Own Go.Proofs.YtmbbkabecipkaacDoor.Inv RunBad RunNot RInv RSlot REnds Take MRun RPart RTake RFinish
set_option linter.unusedVariables false

set_option maxRecDepth 1000000 in
set_option maxHeartbeats 4000000 in
/-- Tell, where too much was told -/
theorem tell_off {A : Array Value} {fuel : Int} {bM bR bO : Nat} {vR v19 v20 v21 v22 v23 v24 v25 v28 : Value} {w w1 wr : World} {own : Nat → Tag} {vT vD vC : Value} {G : List (Fr × Nat × Value)} {f : Fr} {b : Nat} {v : Value} {data told : List Int} {C : List (Rec × Value)} {R : Act → World → Prop} {K0 K2 : Act → World → Prop} {R0 : Ending → World → Prop} {r : Int × Int × St} {rm : List Fr} {bp bi gl cl_ : Nat} {a_ b_ c_ : Int} (hs : Sl A fuel bM bR bO vR (.pointer (some ⟨b, 0, none⟩)) (.pointer (some ⟨bp, 0, none⟩)) (.pointer (some ⟨bi, 0, none⟩)) v22 v23 (.slice (some ⟨gl, 0, none⟩) 1 cl_) v25 v28) (hbi : Block own wr bi #[.int .i64 14, .int .i64 a_, .int .i64 b_, .int .i64 c_] 27 (12, 0)) {x : Int} (hx : wr.cell? ⟨gl, 0, none⟩ = some (.int .i64 x)) (hcl : 1 ≤ cl_) (htl : told.length = 500) (h : RInv own w1 wr bO vR vT vD vC G data told C) (hT : Begun w w1 bR) (hr : (6, 0, (⟨rm, data, told, C.map Prod.fst⟩ : St)) = r) (hR0 : R0 = Gave w r) :
    RInv.upto Tryd.prog 2 (RInv.behind 13 (RInv.inside (RInv.behind 1 (((Tryd.f15.body.map RInv.loops).getD []).getD 1 .skip)))) R (Exit.inBlock 3 (Exit.then K0 (Exit.inBlock 2 (Exit.then K2 (bodyPost Tryd.prog Tryd.f15 R0))))) ⟨A, []⟩ wr := by
  obtain ⟨u, rfl⟩ := fold hs
  have i0 := hbi.cell 0 (v := .int .i64 14) rfl
  have i1 := hbi.cell 1 (v := .int .i64 a_) rfl
  subst hR0
  obtain ⟨a1, x1, rfl⟩ := owned_form h.told
  obtain ⟨a2, x2, rfl⟩ := owned_form h.dat
  obtain ⟨a3, x3, rfl⟩ := owned_form h.calls
  have hz := zero_set h hT 0 (.int .i64 6)
  have q0 := h.out.cell 0 (v := .int .i64 0) rfl
  have q1 := h.out.cell 1 (v := .int .i64 0) rfl
  have q2 := h.out.cell 2 (v := .slice a1 told.length x1) rfl
  have q3 := h.out.cell 3 (v := .slice a2 data.length x2) rfl
  have q4 := h.out.cell 4 (v := .slice a3 C.length x3) rfl
  have z0 := h.out.frozen 0
  have one := ones (a := 6) (b := 0) (rfl : Value.slice a1 told.length x1 = _) (rfl : Value.slice a2 data.length x2 = _) (rfl : Value.slice a3 C.length x3 = _)
  have fin : ∀ W : World, W.os = wr.os → W.tape = wr.tape → W.output = wr.output → W.heap = (wr.setCell ⟨bO, 0, none⟩ (.int .i64 6)).heap → Gave w r (.returned (.tuple #[.agg #[.int .i64 6, .int .i64 0, .slice a1 told.length x1, .slice a2 data.length x2, .slice a3 C.length x3], .int .i64 0])) (W.setRow bR #[.int .i64 6, .int .i64 0, .slice a1 told.length x1, .slice a2 data.length x2, .slice a3 C.length x3]) := fun W e0 e1 e2 e3 =>
    REnds.gave h hT ((Moves.setCell own wr bO 0 (.int .i64 6) h.out.tag).trans (same_moves (w := wr.setCell ⟨bO, 0, none⟩ (.int .i64 6)) e0 e1 e2 e3 _)) _ hr
  obtain ⟨nT, eT⟩ : ∃ n, n = told.length := ⟨_, rfl⟩
  obtain ⟨nD, eD⟩ : ∃ n, n = data.length := ⟨_, rfl⟩
  obtain ⟨nC, eC⟩ : ∃ n, n = C.length := ⟨_, rfl⟩
  rw [← eT] at q2 one fin htl
  subst htl
  rw [← eD] at q3 one fin
  rw [← eC] at q4 one fin
  have hz' : ∀ W : World, W.heap = (wr.setCell ⟨bO, 0, none⟩ (.int .i64 6)).heap → W.heap[bR]? = some (.cells zero 41 (0, 0)) := fun W e3 => by rw [e3]; exact hz
  have HZ : Hid _ := hz'
  have ONE : Hid _ := one
  have FEND : Hid _ := fin
  clear hz hz' one fin hT hr eT eD eC
  clear hs hbi h
  conv => arg 3; whnf
  refine upto_seq ?_
  go_wp2
  refine upto_seq ?_
  go_wp2_with ((with_reducible show wpList _ _ _ ({ dst := none, op := Op.store 41 _ _, type := _, pos := _, after := _, guard := _ } :: _) _ _); refine wpList_store_row rfl 41 _ _ rfl bR #[.int .i64 6, .int .i64 0, .slice a1 500 x1, .slice a2 nD x2, .slice a3 nC x3] rfl rfl 41 zero (HZ.out _ rfl) size41 rfl ONE.out ?_)
  · refine bodyPost_ret (results5 _ _ bR #[.int .i64 6, .int .i64 0, .slice a1 500 x1, .slice a2 nD x2, .slice a3 nC x3] 41 (0, 0) _ rfl rfl (setRow_heap _ _ _ _ _ _ (HZ.out _ rfl)) rfl) rfl ?_
    exact FEND.out _ rfl rfl rfl rfl

set_option maxRecDepth 1000000 in
set_option maxHeartbeats 4000000 in
/-- Tell -/
theorem tell_on {A : Array Value} {fuel : Int} {bM bR bO : Nat} {vR v19 v20 v21 v22 v23 v24 v25 v28 : Value} {w w1 wr : World} {own : Nat → Tag} {vT vD vC : Value} {G : List (Fr × Nat × Value)} {f : Fr} {b : Nat} {v : Value} {data told : List Int} {C : List (Rec × Value)} {R : Act → World → Prop} {K0 K2 : Act → World → Prop} {R0 : Ending → World → Prop} {r : Int × Int × St} {rm : List Fr} {bp bi gl cl_ : Nat} {a_ b_ c_ : Int} (hs : Sl A fuel bM bR bO vR (.pointer (some ⟨b, 0, none⟩)) (.pointer (some ⟨bp, 0, none⟩)) (.pointer (some ⟨bi, 0, none⟩)) v22 v23 (.slice (some ⟨gl, 0, none⟩) 1 cl_) v25 v28) (hbi : Block own wr bi #[.int .i64 14, .int .i64 a_, .int .i64 b_, .int .i64 c_] 27 (12, 0)) {x : Int} (hx : wr.cell? ⟨gl, 0, none⟩ = some (.int .i64 x)) (hcl : 1 ≤ cl_) (htl : told.length < 500) (h : RInv own w1 wr bO vR vT vD vC ((f, b, v) :: G) data told C)
    (hR : ∀ A' own' W v', Sl A' fuel bM bR bO vR (.pointer (some ⟨b, 0, none⟩)) (.pointer (some ⟨bp, 0, none⟩)) (.pointer (some ⟨bi, 0, none⟩)) v22 v23 (.slice (some ⟨gl, 0, none⟩) 1 cl_) (.slice none 0 0) v28 → RInv own' w1 W bO vR v' vD vC ((f, b, v) :: G) data (told ++ [x]) C → R ⟨A', []⟩ W) :
    RInv.upto Tryd.prog 2 (RInv.behind 13 (RInv.inside (RInv.behind 1 (((Tryd.f15.body.map RInv.loops).getD []).getD 1 .skip)))) R (Exit.inBlock 3 (Exit.then K0 (Exit.inBlock 2 (Exit.then K2 (bodyPost Tryd.prog Tryd.f15 R0))))) ⟨A, []⟩ wr := by
  obtain ⟨u, rfl⟩ := fold hs
  have i0 := hbi.cell 0 (v := .int .i64 14) rfl
  have i1 := hbi.cell 1 (v := .int .i64 a_) rfl
  obtain ⟨j0, hi, hz0, hz1, hz2⟩ := info_parts info3
  have hT := h.told
  obtain ⟨aT, cT, rfl⟩ := owned_form h.told
  have o2 := h.out.cell 2 (v := .slice aT told.length cT) rfl
  have hlt : bO < wr.heap.size := h.out.lt
  have h2 := h.moves (n := 0) (m := 9) ((Moves.drew own wr (9, 9)).trans (Moves.alloc own wr.drew (.cells #[.int .i64 x] 3) (9, 9)))
  have fin : ∀ A' g' c' W, Sl A' fuel bM bR bO vR (.pointer (some ⟨b, 0, none⟩)) (.pointer (some ⟨bp, 0, none⟩)) (.pointer (some ⟨bi, 0, none⟩)) v22 v23 (.slice (some ⟨gl, 0, none⟩) 1 cl_) (.slice none 0 0) v28 → W.ownsRow 0 3 1 (.slice (some ⟨g', 0, none⟩) (told.length + 1) c') (told.length + 1) (ints told ++ [.int .i64 x]) → (wr.drew.alloc (.cells #[.int .i64 x] 3)).grownBy W (Value.slice aT told.length cT).ownBlock → ((Value.slice (some ⟨g', 0, none⟩) (told.length + 1) c').ownBlock = (Value.slice aT told.length cT).ownBlock ∨ (Value.slice (some ⟨g', 0, none⟩) (told.length + 1) c').ownBlock = some (wr.drew.alloc (.cells #[.int .i64 x] 3)).heap.size) → R ⟨A', []⟩ (W.setCell ⟨bO, 2, none⟩ (.slice (some ⟨g', 0, none⟩) (told.length + 1) c')) := fun A' g' c' W hs' ho hg hn => hR A' _ _ _ hs' (h2.told_set hg hn ho)
  have keep : ∀ W, (wr.drew.alloc (.cells #[.int .i64 x] 3)).grownBy W (Value.slice aT told.length cT).ownBlock → W.cell? ⟨bO, 2, none⟩ = some (.slice aT told.length cT) ∧ W.frozen? ⟨bO, 2, none⟩ = false := fun W hg => by
    have hB := h2.out.moves (Moves.grown (t := (4, 0)) h2.told.tag hg) (by simp)
    exact ⟨hB.cell 2 rfl, hB.frozen 2⟩
  have row : (wr.drew.alloc (.cells #[.int .i64 x] 3)).ownsRow 0 3 1 (.slice aT told.length cT) told.length (ints told) := h2.told.row
  obtain ⟨nT, eT⟩ : ∃ n, n = told.length := ⟨_, rfl⟩
  obtain ⟨X, eX⟩ : ∃ X, X = ints told := ⟨_, rfl⟩
  have ROW : Hid ((wr.drew.alloc (.cells #[.int .i64 x] 3)).ownsRow 0 3 1 (.slice aT told.length cT) told.length (ints told)) := row
  rw [← eX, ← eT] at fin ROW
  rw [← eT] at keep o2 htl
  have hnI : (nT : Int) < 500 := by omega
  have NEW : Hid _ := Enter.twelve_new (w := wr.drew) (L := [.int .i64 x]) (t := 3)
  have ONE : Hid (∀ u ∈ ([.int .i64 x] : List Value), u.oneCell' = true) := by simp [Hid, Value.oneCell']
  have FIN : Hid _ := fin
  have KEEP : Hid _ := keep
  clear hs hbi h hT h2 hR fin keep row eT eX
  conv => arg 3; whnf
  refine upto_seq ?_
  go_wp2
  refine upto_seq ?_
  go_wp2
  go_region_law (refine step_append_fresh (by rfl) (.tmp 516) (.tmp 520) 29 (by rfl) 0 3 j0 _ 1 8 Tryd.underlying29 hi hz0 hz1 hz2 (by rfl) (by decide) (.slice aT nT cT) nT X (by rfl) ROW.out ⟨wr.heap.size, 0, none⟩ 1 1 (by decide) [.int .i64 x] (by rfl) (by rfl) NEW.out ONE.out (by unfold maxLen; omega) (by omega) (Nat.zero_le _) ?_; intro g' c' W ho hg hn; obtain ⟨d1, d2⟩ := KEEP.out W hg; have HO : Hid _ := ho; have HG : Hid _ := hg; have HN : Hid _ := hn; clear ho hg hn)
  all_goals
    go_wp2
    exact FIN.out _ _ _ _ ⟨rfl, rfl, rfl, rfl, rfl, rfl, rfl, rfl, rfl, rfl, rfl, rfl, rfl, rfl, rfl⟩ HO.out HG.out HN.out
end Go.Proofs.YtmbbkabecipkaacDoor.RArmC
