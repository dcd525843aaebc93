/-
  RunOf, A ROUND UP TO ITS SWITCH: the room, its part, its instruction, and the words that it takes.
  Conditions: each theorem's own hypotheses.
  RunOf, A ROUND THAT ENDS AHEAD OF ITS SWITCH: no fuel, no instruction, too few words.
  Conditions: each theorem's own hypotheses.
  RunOf, BEHIND ITS SWITCH: words are put, or are too many.
  Conditions: each theorem's own hypotheses.
  RunOf, WHAT ITS SWITCH IS MET WITH, AND WHAT MUST HOLD BEHIND A ROUND; words are put, or none.
  Conditions: each theorem's own hypotheses.
-/
import Derived.Test.YtmbbkabecipkaacDoorWhole26
import Derived.Test.YtmbbkabecipkaacDoorWhole27
namespace Go.Proofs.YtmbbkabecipkaacDoor.RFront
open Go.RowKit Tab Go.Proofs.YtmbbkabecipkaacDoor.Check Lists Go.Proofs.YtmbbkabecipkaacDoor.Read Img Mach Own Go.Proofs.YtmbbkabecipkaacDoor.Inv RunBad RunNot RInv RSlot REnds Take MRun RPart RTake RFinish RJoin
set_option linter.unusedVariables false

theorem zero_behind (c : Code) : RInv.behind 0 c = c := rfl

/-- up to the switch -/
theorem front {A : Array Value} {fuel : Int} {bM bR bO : Nat} {vR v19 v20 v21 v22 v23 v24 v25 v28 : Value} {w w1 wr : World} {own : Nat → Tag} {vT vD vC : Value} {G : List (Fr × Nat × Value)} {f : Fr} {b : Nat} {v : Value} {data told : List Int} {C : List (Rec × Value)} {K0 K2 : Act → World → Prop} {R0 : Ending → World → Prop} {r : Int × Int × St} {rm : List Fr} {ao : Option Addr} {len cap dlen : Nat} {P : Nat → PartD} (hs : Sl A fuel bM bR bO vR v19 v20 v21 v22 v23 v24 v25 v28) (h : RInv own w1 wr bO vR vT vD vC ((f, b, v) :: G) data told C) (hG : G.length < 20) (h0 : 0 < fuel) (h1 : fuel ≤ 100000)
    (hS : RSure w1 bM ao len cap dlen P) (hp : f.part < len) (hpc : f.pc < (P f.part).cl) (hw : f.words.length ≤ 40) (hop : 1 ≤ (P f.part).o f.pc ∧ (P f.part).o f.pc ≤ 15) (hb0 : 0 ≤ (P f.part).b f.pc) (hc0 : 0 ≤ (P f.part).c f.pc) (hn4 : (Mach.needs ((P f.part).o f.pc) ((P f.part).b f.pc) ((P f.part).c f.pc)) ≤ 4) (hfew : (Mach.needs ((P f.part).o f.pc) ((P f.part).b f.pc) ((P f.part).c f.pc)) ≤ f.words.length)
    (hR : ∀ A' own' W bp bi v' vl, Sl A' (fuel - 1) bM bR bO vR (.pointer (some ⟨b, 0, none⟩)) (.pointer (some ⟨bp, 0, none⟩)) (.pointer (some ⟨bi, 0, none⟩)) (.int .i64 (((Mach.needs ((P f.part).o f.pc) ((P f.part).b f.pc) ((P f.part).c f.pc)) : Nat) : Int)) (.int .i64 ((f.words.length - (Mach.needs ((P f.part).o f.pc) ((P f.part).b f.pc) ((P f.part).c f.pc)) : Nat) : Int)) vl v25 v28 →
      RInv own' w1 W bO vR vT vD vC (({ f with pc := f.pc + 1, words := f.words.take (f.words.length - (Mach.needs ((P f.part).o f.pc) ((P f.part).b f.pc) ((P f.part).c f.pc))) }, b, v') :: G) data told C → Block own' W bp #[.slice (P f.part).ca (P f.part).cl (P f.part).cc, .slice (P f.part).ea (P f.part).el (P f.part).ec, .int .i64 (P f.part).lo, .int .i64 (P f.part).hi] 55 (11, 0) → Block own' W bi #[.int .i64 ((P f.part).o f.pc), .int .i64 ((P f.part).a f.pc), .int .i64 ((P f.part).b f.pc), .int .i64 ((P f.part).c f.pc)] 27 (12, 0) →
      Owned own' W 3 1 vl (f.words.drop (f.words.length - (Mach.needs ((P f.part).o f.pc) ((P f.part).b f.pc) ((P f.part).c f.pc)))).length (ints (f.words.drop (f.words.length - (Mach.needs ((P f.part).o f.pc) ((P f.part).b f.pc) ((P f.part).c f.pc))))) (13, 0) → (RInv.behind 13 (RInv.inside (RInv.behind 1 (((Tryd.f15.body.map RInv.loops).getD []).getD 1 .skip)))).wp Tryd.prog (Exit.inBlock 3 (Exit.then K0 (Exit.inBlock 2 (Exit.then K2 (bodyPost Tryd.prog Tryd.f15 R0))))) ⟨A', []⟩ W) :
    Code.wp Tryd.prog (RInv.inside (RInv.behind 1 (((Tryd.f15.body.map RInv.loops).getD []).getD 1 .skip))) (Exit.inBlock 3 (Exit.then K0 (Exit.inBlock 2 (Exit.then K2 (bodyPost Tryd.prog Tryd.f15 R0))))) ⟨A, []⟩ wr := by
  rw [← zero_behind (RInv.inside (RInv.behind 1 (((Tryd.f15.body.map RInv.loops).getD []).getD 1 .skip)))]
  refine piece 3 ?_
  refine RFetch.room (w := w) (r := r) (rm := rm) hs h hG h0 h1 fun A1 hs1 => ?_
  refine piece 1 ?_
  refine part_ (v19 := v19) (w := w) (r := r) (rm := rm) hs1 h hS hp fun A2 own2 W2 bp hs2 h2 hbp2 => ?_
  refine piece 1 ?_
  refine at_on (v19 := v19) (v20 := v20) (w := w) (r := r) (rm := rm) (ao := ao) (len := len) (cap := cap) (dlen := dlen) hs2 h2 hbp2 hpc (by have := hS.cl1200 _ hp; omega) (hS.cl1200 _ hp) fun A3 W3 hs3 h3 hbp3 => ?_
  refine piece 1 ?_
  refine instr (v19 := v19) (v20 := v20) (v21 := v21) (w := w) (r := r) (rm := rm) hs3 h3 hbp3 hS hp hpc fun A4 own4 W4 bi hs4 h4 hbp4 hbi4 => ?_
  refine piece 2 ?_
  refine next_ (v19 := v19) (w := w) (r := r) (rm := rm) hs4 h4 (by have := hS.cl1200 _ hp; omega) fun A5 W5 hs5 e5 => ?_
  have h5 : RInv own4 w1 W5 bO vR vT vD vC (({ f with pc := f.pc + 1 }, b, v) :: G) data told C := by
    rw [e5]
    exact h4.top_set 1 _ rfl rfl h4.rooms.1.2.2
  have m5 := Moves.setCell own4 W4 b 1 (.int .i64 ((f.pc + 1 : Nat) : Int)) h4.rooms.1.1.tag
  rw [← e5] at m5
  have hbp5 := hbp4.moves m5 (by simp)
  have hbi5 := hbi4.moves m5 (by simp)
  refine piece 1 ?_
  refine RNeeds.needs_ (v21 := v21) (v22 := v22) (w := w) (r := r) (rm := rm) (w1 := w1) (vT := vT) (vD := vD) (vC := vC) (G := G) (f := f) (b := b) (v := v) (data := data) (told := told) (C := C) hs5 hbi5 hop.1 hop.2 hb0 hc0 fun A6 hs6 => ?_
  refine piece 2 ?_
  refine few_on (v19 := v19) (v22 := v22) (w := w) (r := r) (rm := rm) hs6 h5 hw hn4 hfew fun A7 hs7 => ?_
  refine piece 2 ?_
  refine taken (v19 := v19) (v23 := v23) (w := w) (r := r) (rm := rm) (n := (Mach.needs ((P f.part).o f.pc) ((P f.part).b f.pc) ((P f.part).c f.pc))) hs7 h5 hw hfew fun A8 v' vl V1 V2 hs8 f1 f2 => ?_
  obtain ⟨own8, h8, ol, hB⟩ := taken_inv h5 f1 f2
  exact hR A8 own8 _ bp bi v' vl hs8 h8 (hB bp _ _ 2 hbp5) (hB bi _ _ 3 hbi5) ol
end Go.Proofs.YtmbbkabecipkaacDoor.RFront

namespace Go.Proofs.YtmbbkabecipkaacDoor.REarly
open Go.RowKit Tab Go.Proofs.YtmbbkabecipkaacDoor.Check Lists Go.Proofs.YtmbbkabecipkaacDoor.Read Img Mach Own Go.Proofs.YtmbbkabecipkaacDoor.Inv RunBad RunNot RInv RSlot REnds Take MRun RPart RTake RFinish RJoin RFront
set_option linter.unusedVariables false

theorem spent {A : Array Value} {fuel : Int} {bM bR bO : Nat} {vR v19 v20 v21 v22 v23 v24 v25 v28 : Value} {w w1 wr : World} {own : Nat → Tag} {vT vD vC : Value} {G : List (Fr × Nat × Value)} {f : Fr} {b : Nat} {v : Value} {data told : List Int} {C : List (Rec × Value)} {K0 K2 : Act → World → Prop} {R0 : Ending → World → Prop} {r : Int × Int × St} {rm : List Fr} (hs : Sl A 0 bM bR bO vR v19 v20 v21 v22 v23 v24 v25 v28) (h : RInv own w1 wr bO vR vT vD vC G data told C) (hT : Begun w w1 bR) (hr : (3, 0, (⟨rm, data, told, C.map Prod.fst⟩ : St)) = r) (hR0 : R0 = Gave w r) :
    Code.wp Tryd.prog (RInv.inside (RInv.behind 1 (((Tryd.f15.body.map RInv.loops).getD []).getD 1 .skip))) (Exit.inBlock 3 (Exit.then K0 (Exit.inBlock 2 (Exit.then K2 (bodyPost Tryd.prog Tryd.f15 R0))))) ⟨A, []⟩ wr := by
  rw [← zero_behind (RInv.inside (RInv.behind 1 (((Tryd.f15.body.map RInv.loops).getD []).getD 1 .skip)))]
  refine piece 3 ?_
  exact RFetch.spent (fuel := fuel) (f := f) (b := b) (v := v) hs h hT hr hR0

theorem off {A : Array Value} {fuel : Int} {bM bR bO : Nat} {vR v19 v20 v21 v22 v23 v24 v25 v28 : Value} {w w1 wr : World} {own : Nat → Tag} {vT vD vC : Value} {G : List (Fr × Nat × Value)} {f : Fr} {b : Nat} {v : Value} {data told : List Int} {C : List (Rec × Value)} {K0 K2 : Act → World → Prop} {R0 : Ending → World → Prop} {r : Int × Int × St} {rm : List Fr} {ao : Option Addr} {len cap dlen : Nat} {P : Nat → PartD} (hs : Sl A fuel bM bR bO vR v19 v20 v21 v22 v23 v24 v25 v28) (h : RInv own w1 wr bO vR vT vD vC ((f, b, v) :: G) data told C) (hG : G.length < 20) (h0 : 0 < fuel) (h1 : fuel ≤ 100000)
    (hS : RSure w1 bM ao len cap dlen P) (hp : f.part < len) (hpc : ¬ f.pc < (P f.part).cl) (hpl : f.pc ≤ 1200) (hT : Begun w w1 bR) (hr : (4, 0, (⟨rm, data, told, C.map Prod.fst⟩ : St)) = r) (hR0 : R0 = Gave w r) :
    Code.wp Tryd.prog (RInv.inside (RInv.behind 1 (((Tryd.f15.body.map RInv.loops).getD []).getD 1 .skip))) (Exit.inBlock 3 (Exit.then K0 (Exit.inBlock 2 (Exit.then K2 (bodyPost Tryd.prog Tryd.f15 R0))))) ⟨A, []⟩ wr := by
  rw [← zero_behind (RInv.inside (RInv.behind 1 (((Tryd.f15.body.map RInv.loops).getD []).getD 1 .skip)))]
  refine piece 3 ?_
  refine RFetch.room (w := w) (r := r) (rm := rm) hs h hG h0 h1 fun A1 hs1 => ?_
  refine piece 1 ?_
  refine part_ (v19 := v19) (w := w) (r := r) (rm := rm) hs1 h hS hp fun A2 own2 W2 bp hs2 h2 hbp2 => ?_
  refine piece 1 ?_
  exact at_off (v19 := v19) (v20 := v20) (ao := ao) (len := len) (cap := cap) (dlen := dlen) hs2 h2 hbp2 hpc hpl (hS.cl1200 _ hp) hT hr hR0

theorem few {A : Array Value} {fuel : Int} {bM bR bO : Nat} {vR v19 v20 v21 v22 v23 v24 v25 v28 : Value} {w w1 wr : World} {own : Nat → Tag} {vT vD vC : Value} {G : List (Fr × Nat × Value)} {f : Fr} {b : Nat} {v : Value} {data told : List Int} {C : List (Rec × Value)} {K0 K2 : Act → World → Prop} {R0 : Ending → World → Prop} {r : Int × Int × St} {rm : List Fr} {ao : Option Addr} {len cap dlen : Nat} {P : Nat → PartD} (hs : Sl A fuel bM bR bO vR v19 v20 v21 v22 v23 v24 v25 v28) (h : RInv own w1 wr bO vR vT vD vC ((f, b, v) :: G) data told C) (hG : G.length < 20) (h0 : 0 < fuel) (h1 : fuel ≤ 100000)
    (hS : RSure w1 bM ao len cap dlen P) (hp : f.part < len) (hpc : f.pc < (P f.part).cl) (hw : f.words.length ≤ 40) (hop : 1 ≤ (P f.part).o f.pc ∧ (P f.part).o f.pc ≤ 15) (hb0 : 0 ≤ (P f.part).b f.pc) (hc0 : 0 ≤ (P f.part).c f.pc) (hn4 : (Mach.needs ((P f.part).o f.pc) ((P f.part).b f.pc) ((P f.part).c f.pc)) ≤ 4) (hfew : ¬ (Mach.needs ((P f.part).o f.pc) ((P f.part).b f.pc) ((P f.part).c f.pc)) ≤ f.words.length) (hT : Begun w w1 bR) (hr : (4, 0, (⟨rm, data, told, C.map Prod.fst⟩ : St)) = r) (hR0 : R0 = Gave w r) :
    Code.wp Tryd.prog (RInv.inside (RInv.behind 1 (((Tryd.f15.body.map RInv.loops).getD []).getD 1 .skip))) (Exit.inBlock 3 (Exit.then K0 (Exit.inBlock 2 (Exit.then K2 (bodyPost Tryd.prog Tryd.f15 R0))))) ⟨A, []⟩ wr := by
  rw [← zero_behind (RInv.inside (RInv.behind 1 (((Tryd.f15.body.map RInv.loops).getD []).getD 1 .skip)))]
  refine piece 3 ?_
  refine RFetch.room (w := w) (r := r) (rm := rm) hs h hG h0 h1 fun A1 hs1 => ?_
  refine piece 1 ?_
  refine part_ (v19 := v19) (w := w) (r := r) (rm := rm) hs1 h hS hp fun A2 own2 W2 bp hs2 h2 hbp2 => ?_
  refine piece 1 ?_
  refine at_on (v19 := v19) (v20 := v20) (w := w) (r := r) (rm := rm) (ao := ao) (len := len) (cap := cap) (dlen := dlen) hs2 h2 hbp2 hpc (by have := hS.cl1200 _ hp; omega) (hS.cl1200 _ hp) fun A3 W3 hs3 h3 hbp3 => ?_
  refine piece 1 ?_
  refine instr (v19 := v19) (v20 := v20) (v21 := v21) (w := w) (r := r) (rm := rm) hs3 h3 hbp3 hS hp hpc fun A4 own4 W4 bi hs4 h4 hbp4 hbi4 => ?_
  refine piece 2 ?_
  refine next_ (v19 := v19) (w := w) (r := r) (rm := rm) hs4 h4 (by have := hS.cl1200 _ hp; omega) fun A5 W5 hs5 e5 => ?_
  have h5 : RInv own4 w1 W5 bO vR vT vD vC (({ f with pc := f.pc + 1 }, b, v) :: G) data told C := by
    rw [e5]
    exact h4.top_set 1 _ rfl rfl h4.rooms.1.2.2
  have m5 := Moves.setCell own4 W4 b 1 (.int .i64 ((f.pc + 1 : Nat) : Int)) h4.rooms.1.1.tag
  rw [← e5] at m5
  have hbi5 := hbi4.moves m5 (by simp)
  refine piece 1 ?_
  refine RNeeds.needs_ (v21 := v21) (v22 := v22) (w := w) (r := r) (rm := rm) (w1 := w1) (vT := vT) (vD := vD) (vC := vC) (G := G) (f := f) (b := b) (v := v) (data := data) (told := told) (C := C) hs5 hbi5 hop.1 hop.2 hb0 hc0 fun A6 hs6 => ?_
  refine piece 1 ?_
  exact few_off (v19 := v19) (v22 := v22) hs6 h5 hw hn4 hfew hT hr hR0
end Go.Proofs.YtmbbkabecipkaacDoor.REarly

namespace Go.Proofs.YtmbbkabecipkaacDoor.RBack
open Go.RowKit Tab Go.Proofs.YtmbbkabecipkaacDoor.Check Lists Go.Proofs.YtmbbkabecipkaacDoor.Read Img Mach Own Go.Proofs.YtmbbkabecipkaacDoor.Inv RunBad RunNot RInv RSlot REnds Take MRun RPart RTake RFinish RJoin RFront
set_option linter.unusedVariables false

theorem words {A : Array Value} {fuel : Int} {bM bR bO : Nat} {vR v19 v20 v21 v22 v23 v24 v25 v28 : Value} {w w1 wr : World} {own : Nat → Tag} {vT vD vC : Value} {G : List (Fr × Nat × Value)} {f : Fr} {b : Nat} {v : Value} {data told : List Int} {C : List (Rec × Value)} {K0 K2 : Act → World → Prop} {R0 : Ending → World → Prop} {r : Int × Int × St} {rm : List Fr} {back : List Int} {gb cb_ : Nat} (hs : Sl A fuel bM bR bO vR (.pointer (some ⟨b, 0, none⟩)) v20 v21 v22 v23 v24 (.slice (some ⟨gb, 0, none⟩) back.length cb_) v28) (h : RInv own w1 wr bO vR vT vD vC ((f, b, v) :: G) data told C) (hw : f.words.length ≤ 40) (hbk : 0 < back.length) (hbk2 : back.length ≤ 2)
    (hsrc : ∀ j u, (ints back)[j]? = some u → wr.cell? ((⟨gb, 0, none⟩ : Addr).add j) = some u) (hT : Begun w w1 bR) (hR0 : R0 = Gave w r) (hF : ¬ f.words.length + back.length ≤ 40 → (4, 0, (⟨rm, data, told, C.map Prod.fst⟩ : St)) = r)
    (hK : f.words.length + back.length ≤ 40 → ∀ A' own' W v', Sl A' fuel bM bR bO vR (.pointer (some ⟨b, 0, none⟩)) v20 v21 v22 v23 v24 (.slice (some ⟨gb, 0, none⟩) back.length cb_) v28 → RInv own' w1 W bO vR vT vD vC (({ f with words := f.words ++ back }, b, v') :: G) data told C → K0 ⟨A', []⟩ W) :
    Code.wp Tryd.prog (RInv.behind 15 (RInv.inside (RInv.behind 1 (((Tryd.f15.body.map RInv.loops).getD []).getD 1 .skip)))) (Exit.inBlock 3 (Exit.then K0 (Exit.inBlock 2 (Exit.then K2 (bodyPost Tryd.prog Tryd.f15 R0))))) ⟨A, []⟩ wr := by
  by_cases hf : f.words.length + back.length ≤ 40
  · exact puts_ (R := K0) (v19 := v19) (v25 := v25) (w := w) (r := r) (rm := rm) hs h hbk hbk2 hsrc hf (hK hf)
  · exact full (R := K0) (v19 := v19) (v25 := v25) hs h hw hbk2 hf hT (hF hf) hR0

/-- a new row of numbers, as a source -/
theorem new_src {w W : World} {back : List Int} (e3 : W.heap = (w.alloc (.cells (ints back).toArray 3)).heap) : ∀ j u, (ints back)[j]? = some u → W.cell? ((⟨w.heap.size, 0, none⟩ : Addr).add j) = some u := fun j u hu => by
  have hB : W.heap[w.heap.size]? = some (.cells (ints back).toArray 3 (0, 0)) := by rw [e3]; exact heap_alloc_new _ _
  rw [Go.WideShapes.add_plain, Nat.zero_add]
  exact (cell_of_row W w.heap.size j _ 3 (0, 0) hB).trans (by simpa using hu)
end Go.Proofs.YtmbbkabecipkaacDoor.RBack

namespace Go.Proofs.YtmbbkabecipkaacDoor.RMet
open Go.RowKit Tab Go.Proofs.YtmbbkabecipkaacDoor.Check Lists Go.Proofs.YtmbbkabecipkaacDoor.Read Img Mach Own Go.Proofs.YtmbbkabecipkaacDoor.Inv RunBad RunNot RInv RSlot REnds Take MRun RPart RTake RFinish RJoin RFront RBack ActQ
set_option linter.unusedVariables false

/-- what the switch is met with -/
structure Met (w w1 W : World) (own : Nat → Tag) (A : Array Value) (fuel : Int) (bM bR bO b bp bi : Nat) (vR v22 v23 vl v25 v28 vT vD vC v : Value) (f : Fr) (G : List (Fr × Nat × Value)) (data told : List Int) (C : List (Rec × Value)) (l : List Int) (ao : Option Addr) (len cap dlen : Nat) (P : Nat → PartD) (op a b_ c_ : Int) : Prop where
  sl : Sl A fuel bM bR bO vR (.pointer (some ⟨b, 0, none⟩)) (.pointer (some ⟨bp, 0, none⟩)) (.pointer (some ⟨bi, 0, none⟩)) v22 v23 vl v25 v28
  inv : RInv own w1 W bO vR vT vD vC ((f, b, v) :: G) data told C
  bp : Block own W bp #[.slice (P f.part).ca (P f.part).cl (P f.part).cc, .slice (P f.part).ea (P f.part).el (P f.part).ec, .int .i64 (P f.part).lo, .int .i64 (P f.part).hi] 55 (11, 0)
  bi : Block own W bi #[.int .i64 op, .int .i64 a, .int .i64 b_, .int .i64 c_] 27 (12, 0)
  lies : Owned own W 3 1 vl l.length (ints l) (13, 0)
  sure : RSure w1 bM ao len cap dlen P
  begun : Begun w w1 bR
  part : f.part < len
  hi0 : 0 ≤ (P f.part).hi
  words : f.words.length ≤ 40
  depth : G.length < 20
  rest : ∀ g ∈ G, g.1.words.length ≤ 40
  noted : ∀ k, f.noted = some k → k < C.length
  calls : C.length ≤ 100
  told : told.length ≤ 500
  data : data.length = dlen ∧ dlen ≤ 250
  fault : fault op a b_ c_ = 0
  many : l.length = needs op b_ c_

/-- what must hold behind the round -/
structure Ahead (w w1 : World) (fuel : Int) (bM bR bO : Nat) (K0 : Act → World → Prop) (R0 : Ending → World → Prop) (o : (Int × Int × St) ⊕ St) : Prop where
  ends : ∀ e x s, o = .inl (e, x, s) → R0 = Gave w (e, x, s)
  goes : ∀ s, o = .inr s → ∀ A own W vR v19 v20 v21 v22 v23 v24 v25 v28 vT vD vC G C, Sl A fuel bM bR bO vR v19 v20 v21 v22 v23 v24 v25 v28 → RInv own w1 W bO vR vT vD vC G s.data s.told C → G.map Prod.fst = s.rooms → C.map Prod.fst = s.calls → K0 ⟨A, []⟩ W

section
variable {A : Array Value} {fuel : Int} {bM bR bO b : Nat} {vR v20 v21 v22 v23 v24 v28 v vT vD vC : Value} {w w1 W : World} {own : Nat → Tag} {G : List (Fr × Nat × Value)} {f : Fr} {data told : List Int} {C : List (Rec × Value)} {K0 K2 : Act → World → Prop} {R0 : Ending → World → Prop} {rm : List Fr}

/-- words are put -/
theorem put_back {back : List Int} {gb cb_ : Nat} (N : Ahead w w1 fuel bM bR bO K0 R0 (puts ⟨rm, data, told, C.map Prod.fst⟩ f (G.map Prod.fst) back)) (hs : Sl A fuel bM bR bO vR (.pointer (some ⟨b, 0, none⟩)) v20 v21 v22 v23 v24 (.slice (some ⟨gb, 0, none⟩) back.length cb_) v28) (h : RInv own w1 W bO vR vT vD vC ((f, b, v) :: G) data told C) (hw : f.words.length ≤ 40) (hT : Begun w w1 bR) (hbk : 0 < back.length) (hbk2 : back.length ≤ 2)
    (hsrc : ∀ j u, (ints back)[j]? = some u → W.cell? ((⟨gb, 0, none⟩ : Addr).add j) = some u) :
    Code.wp Tryd.prog (RInv.behind 15 (RInv.inside (RInv.behind 1 (((Tryd.f15.body.map RInv.loops).getD []).getD 1 .skip)))) (Exit.inBlock 3 (Exit.then K0 (Exit.inBlock 2 (Exit.then K2 (bodyPost Tryd.prog Tryd.f15 R0))))) ⟨A, []⟩ W := by
  by_cases hf : f.words.length + back.length ≤ 40
  · exact puts_ (R := K0) (v19 := v20) (v25 := v20) (w := w) (r := (0, 0, ⟨rm, data, told, C.map Prod.fst⟩)) (rm := rm) hs h hbk hbk2 hsrc hf fun A' own' W' v' hs' h' => N.goes _ (by rw [puts, if_pos hf]) _ _ _ _ _ _ _ _ _ _ _ _ _ _ _ _ _ hs' h' rfl rfl
  · exact full (R := K0) (v19 := v20) (v25 := v20) (rm := rm) (r := (4, 0, ⟨rm, data, told, C.map Prod.fst⟩)) hs h hw hbk2 hf hT rfl (N.ends _ _ _ (by rw [puts, if_neg hf]; rfl))

/-- none are put -/
theorem none_back (N : Ahead w w1 fuel bM bR bO K0 R0 (puts ⟨rm, data, told, C.map Prod.fst⟩ f (G.map Prod.fst) [])) (hs : Sl A fuel bM bR bO vR (.pointer (some ⟨b, 0, none⟩)) v20 v21 v22 v23 v24 (.slice none 0 0) v28) (h : RInv own w1 W bO vR vT vD vC ((f, b, v) :: G) data told C) (hw : f.words.length ≤ 40) :
    Code.wp Tryd.prog (RInv.behind 15 (RInv.inside (RInv.behind 1 (((Tryd.f15.body.map RInv.loops).getD []).getD 1 .skip)))) (Exit.inBlock 3 (Exit.then K0 (Exit.inBlock 2 (Exit.then K2 (bodyPost Tryd.prog Tryd.f15 R0))))) ⟨A, []⟩ W :=
  none_ (R := K0) (v19 := v20) (v25 := v20) (w := w) (r := (0, 0, ⟨rm, data, told, C.map Prod.fst⟩)) (rm := rm) hs h hw fun A' W' hs' h' => N.goes ⟨f :: G.map Prod.fst, data, told, C.map Prod.fst⟩ (by rw [puts, if_pos (by simpa using hw), List.append_nil]) _ _ _ _ _ _ _ _ _ _ _ _ _ _ _ _ _ hs' h' rfl rfl

/-- a room more -/
theorem enter_back {g : Fr} {bg : Nat} {vg : Value} {o : (Int × Int × St) ⊕ St} {cs : List Rec} (ho : o = .inr ⟨g :: f :: G.map Prod.fst, data, told, cs⟩) (hC : C.map Prod.fst = cs) (N : Ahead w w1 fuel bM bR bO K0 R0 o) (hs : Sl A fuel bM bR bO vR (.pointer (some ⟨b, 0, none⟩)) v20 v21 v22 v23 v24 (.slice none 0 0) v28) (h : RInv own w1 W bO vR vT vD vC ((g, bg, vg) :: (f, b, v) :: G) data told C) (hw : f.words.length ≤ 40) :
    Code.wp Tryd.prog (RInv.behind 15 (RInv.inside (RInv.behind 1 (((Tryd.f15.body.map RInv.loops).getD []).getD 1 .skip)))) (Exit.inBlock 3 (Exit.then K0 (Exit.inBlock 2 (Exit.then K2 (bodyPost Tryd.prog Tryd.f15 R0))))) ⟨A, []⟩ W :=
  none_2 (R := K0) (v19 := v20) (v25 := v20) (w := w) (r := (0, 0, ⟨[], [], [], []⟩)) (rm := []) hs h hw fun A' W' hs' h' => N.goes _ ho _ _ _ _ _ _ _ _ _ _ _ _ _ _ _ _ _ hs' h' rfl hC
end

/-- one word that was taken -/
theorem one {own : Nat → Tag} {W : World} {vl : Value} {x : Int} (h : Owned own W 3 1 vl [x].length (ints [x]) (13, 0)) : ∃ gl cl_, vl = .slice (some ⟨gl, 0, none⟩) 1 cl_ ∧ own gl = (13, 0) ∧ 1 ≤ cl_ ∧ W.cell? ⟨gl, 0, none⟩ = some (.int .i64 x) := by
  obtain ⟨gl, cl_, rfl, ht, hc, _⟩ := h.form (by simp)
  exact ⟨gl, cl_, rfl, ht, hc, h.cell 0 rfl⟩

theorem two {own : Nat → Tag} {W : World} {vl : Value} {x y : Int} (h : Owned own W 3 1 vl [x, y].length (ints [x, y]) (13, 0)) : ∃ gl cl_, vl = .slice (some ⟨gl, 0, none⟩) 2 cl_ ∧ own gl = (13, 0) ∧ 2 ≤ cl_ ∧ W.cell? ⟨gl, 0, none⟩ = some (.int .i64 x) ∧ W.cell? ⟨gl, 1, none⟩ = some (.int .i64 y) := by
  obtain ⟨gl, cl_, rfl, ht, hc, _⟩ := h.form (by simp)
  exact ⟨gl, cl_, rfl, ht, hc, h.cell 0 rfl, h.cell 1 rfl⟩

theorem ne_of_tag {own : Nat → Tag} {a b : Nat} {s t : Tag} (h1 : own a = s) (h2 : own b = t) (h : s ≠ t) : a ≠ b := fun e => h (by rw [← h1, ← h2, e])
end Go.Proofs.YtmbbkabecipkaacDoor.RMet
