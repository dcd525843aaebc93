/-
  RunOf, A ROUND: what an instruction does: what it does to its room, and what it puts.
  Conditions: each theorem's own hypotheses.
-/
import Derived.Test.YtmbbkabecipkaacDoorWhole25
namespace Go.Proofs.YtmbbkabecipkaacDoor.RArmA
open Go.RowKit Tab Go.Proofs.YtmbbkabecipkaacDoor.Check Lists Go.Proofs.YtmbbkabecipkaacDoor.Read Img Mach Own Go.Proofs.YtmbbkabecipkaacDoor.Inv RunBad RunNot RInv RSlot REnds Take MRun RPart RTake RFinish
set_option linter.unusedVariables false

set_option maxRecDepth 1000000 in
set_option maxHeartbeats 4000000 in
/-- Push -/
theorem push {A : Array Value} {fuel : Int} {bM bR bO : Nat} {vR v19 v20 v21 v22 v23 v24 v25 v28 : Value} {w w1 wr : World} {own : Nat → Tag} {vT vD vC : Value} {G : List (Fr × Nat × Value)} {f : Fr} {b : Nat} {v : Value} {data told : List Int} {C : List (Rec × Value)} {R : Act → World → Prop} {K0 K2 : Act → World → Prop} {R0 : Ending → World → Prop} {r : Int × Int × St} {rm : List Fr} {bp bi gl cl_ : Nat} {a_ b_ c_ : Int} (hs : Sl A fuel bM bR bO vR (.pointer (some ⟨b, 0, none⟩)) (.pointer (some ⟨bp, 0, none⟩)) (.pointer (some ⟨bi, 0, none⟩)) v22 v23 v24 v25 v28) (hbi : Block own wr bi #[.int .i64 1, .int .i64 a_, .int .i64 b_, .int .i64 c_] 27 (12, 0)) 
    (hR : ∀ A' W, Sl A' fuel bM bR bO vR (.pointer (some ⟨b, 0, none⟩)) (.pointer (some ⟨bp, 0, none⟩)) (.pointer (some ⟨bi, 0, none⟩)) v22 v23 v24 (.slice (some ⟨wr.heap.size, 0, none⟩) 1 1) v28 → W.os = wr.os → W.tape = wr.tape → W.output = wr.output → W.heap = (wr.alloc (.cells #[.int .i64 a_] 3)).heap → R ⟨A', []⟩ W) :
    RInv.upto Tryd.prog 2 (RInv.behind 13 (RInv.inside (RInv.behind 1 (((Tryd.f15.body.map RInv.loops).getD []).getD 1 .skip)))) R (Exit.inBlock 3 (Exit.then K0 (Exit.inBlock 2 (Exit.then K2 (bodyPost Tryd.prog Tryd.f15 R0))))) ⟨A, []⟩ wr := by
  obtain ⟨u, rfl⟩ := fold hs
  have i0 := hbi.cell 0 (v := .int .i64 1) rfl
  have i1 := hbi.cell 1 (v := .int .i64 a_) rfl
  have HR : Hid _ := hR
  clear hs hbi hR
  conv => arg 3; whnf
  refine upto_seq ?_
  go_wp2
  refine upto_seq ?_
  go_wp2
  exact HR.out _ _ ⟨rfl, rfl, rfl, rfl, rfl, rfl, rfl, rfl, rfl, rfl, rfl, rfl, rfl, rfl, rfl⟩ rfl rfl rfl rfl

set_option maxRecDepth 1000000 in
set_option maxHeartbeats 4000000 in
/-- Drop: nothing is left to do -/
theorem drop {A : Array Value} {fuel : Int} {bM bR bO : Nat} {vR v19 v20 v21 v22 v23 v24 v25 v28 : Value} {w w1 wr : World} {own : Nat → Tag} {vT vD vC : Value} {G : List (Fr × Nat × Value)} {f : Fr} {b : Nat} {v : Value} {data told : List Int} {C : List (Rec × Value)} {R : Act → World → Prop} {K0 K2 : Act → World → Prop} {R0 : Ending → World → Prop} {r : Int × Int × St} {rm : List Fr} {bp bi gl cl_ : Nat} {a_ b_ c_ : Int} (hs : Sl A fuel bM bR bO vR (.pointer (some ⟨b, 0, none⟩)) (.pointer (some ⟨bp, 0, none⟩)) (.pointer (some ⟨bi, 0, none⟩)) v22 v23 v24 v25 v28) (hbi : Block own wr bi #[.int .i64 2, .int .i64 a_, .int .i64 b_, .int .i64 c_] 27 (12, 0)) 
    (hR : ∀ A' W, Sl A' fuel bM bR bO vR (.pointer (some ⟨b, 0, none⟩)) (.pointer (some ⟨bp, 0, none⟩)) (.pointer (some ⟨bi, 0, none⟩)) v22 v23 v24 (.slice none 0 0) v28 → W.os = wr.os → W.tape = wr.tape → W.output = wr.output → W.heap = wr.heap → R ⟨A', []⟩ W) :
    RInv.upto Tryd.prog 2 (RInv.behind 13 (RInv.inside (RInv.behind 1 (((Tryd.f15.body.map RInv.loops).getD []).getD 1 .skip)))) R (Exit.inBlock 3 (Exit.then K0 (Exit.inBlock 2 (Exit.then K2 (bodyPost Tryd.prog Tryd.f15 R0))))) ⟨A, []⟩ wr := by
  obtain ⟨u, rfl⟩ := fold hs
  have i0 := hbi.cell 0 (v := .int .i64 2) rfl
  have i1 := hbi.cell 1 (v := .int .i64 a_) rfl
  have HR : Hid _ := hR
  clear hs hbi hR
  conv => arg 3; whnf
  refine upto_seq ?_
  go_wp2
  refine upto_seq ?_
  go_wp2
  exact HR.out _ _ ⟨rfl, rfl, rfl, rfl, rfl, rfl, rfl, rfl, rfl, rfl, rfl, rfl, rfl, rfl, rfl⟩ rfl rfl rfl rfl

set_option maxRecDepth 1000000 in
set_option maxHeartbeats 4000000 in
/-- Dup -/
theorem dup {A : Array Value} {fuel : Int} {bM bR bO : Nat} {vR v19 v20 v21 v22 v23 v24 v25 v28 : Value} {w w1 wr : World} {own : Nat → Tag} {vT vD vC : Value} {G : List (Fr × Nat × Value)} {f : Fr} {b : Nat} {v : Value} {data told : List Int} {C : List (Rec × Value)} {R : Act → World → Prop} {K0 K2 : Act → World → Prop} {R0 : Ending → World → Prop} {r : Int × Int × St} {rm : List Fr} {bp bi gl cl_ : Nat} {a_ b_ c_ : Int} (hs : Sl A fuel bM bR bO vR (.pointer (some ⟨b, 0, none⟩)) (.pointer (some ⟨bp, 0, none⟩)) (.pointer (some ⟨bi, 0, none⟩)) v22 v23 (.slice (some ⟨gl, 0, none⟩) 1 cl_) v25 v28) (hbi : Block own wr bi #[.int .i64 3, .int .i64 a_, .int .i64 b_, .int .i64 c_] 27 (12, 0)) {x : Int} (hx : wr.cell? ⟨gl, 0, none⟩ = some (.int .i64 x)) (hcl : 1 ≤ cl_)
    (hR : ∀ A' W, Sl A' fuel bM bR bO vR (.pointer (some ⟨b, 0, none⟩)) (.pointer (some ⟨bp, 0, none⟩)) (.pointer (some ⟨bi, 0, none⟩)) v22 v23 (.slice (some ⟨gl, 0, none⟩) 1 cl_) (.slice (some ⟨wr.heap.size, 0, none⟩) 2 2) v28 → W.os = wr.os → W.tape = wr.tape → W.output = wr.output → W.heap = (wr.alloc (.cells #[.int .i64 x, .int .i64 x] 3)).heap → R ⟨A', []⟩ W) :
    RInv.upto Tryd.prog 2 (RInv.behind 13 (RInv.inside (RInv.behind 1 (((Tryd.f15.body.map RInv.loops).getD []).getD 1 .skip)))) R (Exit.inBlock 3 (Exit.then K0 (Exit.inBlock 2 (Exit.then K2 (bodyPost Tryd.prog Tryd.f15 R0))))) ⟨A, []⟩ wr := by
  obtain ⟨u, rfl⟩ := fold hs
  have i0 := hbi.cell 0 (v := .int .i64 3) rfl
  have i1 := hbi.cell 1 (v := .int .i64 a_) rfl
  have HR : Hid _ := hR
  clear hs hbi hR
  conv => arg 3; whnf
  refine upto_seq ?_
  go_wp2
  refine upto_seq ?_
  go_wp2
  go_region_held3 (fun w' => w'.cell? ⟨gl, 0, none⟩ = some (.int .i64 x)) (go_keep) (fail)
  all_goals
    go_wp2
    exact HR.out _ _ ⟨rfl, rfl, rfl, rfl, rfl, rfl, rfl, rfl, rfl, rfl, rfl, rfl, rfl, rfl, rfl⟩ rfl rfl rfl rfl

set_option maxRecDepth 1000000 in
set_option maxHeartbeats 4000000 in
/-- Get -/
theorem get {A : Array Value} {fuel : Int} {bM bR bO : Nat} {vR v19 v20 v21 v22 v23 v24 v25 v28 : Value} {w w1 wr : World} {own : Nat → Tag} {vT vD vC : Value} {G : List (Fr × Nat × Value)} {f : Fr} {b : Nat} {v : Value} {data told : List Int} {C : List (Rec × Value)} {R : Act → World → Prop} {K0 K2 : Act → World → Prop} {R0 : Ending → World → Prop} {r : Int × Int × St} {rm : List Fr} {bp bi gl cl_ : Nat} {a_ b_ c_ : Int} (hs : Sl A fuel bM bR bO vR (.pointer (some ⟨b, 0, none⟩)) (.pointer (some ⟨bp, 0, none⟩)) (.pointer (some ⟨bi, 0, none⟩)) v22 v23 v24 v25 v28) (hbi : Block own wr bi #[.int .i64 4, .int .i64 a_, .int .i64 b_, .int .i64 c_] 27 (12, 0)) {j : Nat} (ha : a_ = j) (hj : j < 8) {x : Int} (hx : wr.cell? ⟨b, 2 + j, none⟩ = some (.int .i64 x))
    (hR : ∀ A' W, Sl A' fuel bM bR bO vR (.pointer (some ⟨b, 0, none⟩)) (.pointer (some ⟨bp, 0, none⟩)) (.pointer (some ⟨bi, 0, none⟩)) v22 v23 v24 (.slice (some ⟨wr.heap.size, 0, none⟩) 1 1) v28 → W.os = wr.os → W.tape = wr.tape → W.output = wr.output → W.heap = (wr.alloc (.cells #[.int .i64 x] 3)).heap → R ⟨A', []⟩ W) :
    RInv.upto Tryd.prog 2 (RInv.behind 13 (RInv.inside (RInv.behind 1 (((Tryd.f15.body.map RInv.loops).getD []).getD 1 .skip)))) R (Exit.inBlock 3 (Exit.then K0 (Exit.inBlock 2 (Exit.then K2 (bodyPost Tryd.prog Tryd.f15 R0))))) ⟨A, []⟩ wr := by
  obtain ⟨u, rfl⟩ := fold hs
  have i0 := hbi.cell 0 (v := .int .i64 4) rfl
  have i1 := hbi.cell 1 (v := .int .i64 a_) rfl
  subst ha
  have hjI : (j : Int) < 8 := by omega
  have HR : Hid _ := hR
  clear hs hbi hR
  conv => arg 3; whnf
  refine upto_seq ?_
  go_wp2
  refine upto_seq ?_
  go_wp2
  go_region_held3 (fun w' => w'.cell? ⟨bi, 1, none⟩ = some (.int .i64 j) ∧ w'.cell? ⟨b, 2 + j, none⟩ = some (.int .i64 x)) (go_keep) (fail)
  all_goals
    go_wp2
    exact HR.out _ _ ⟨rfl, rfl, rfl, rfl, rfl, rfl, rfl, rfl, rfl, rfl, rfl, rfl, rfl, rfl, rfl⟩ rfl rfl rfl rfl

set_option maxRecDepth 1000000 in
set_option maxHeartbeats 4000000 in
/-- Put -/
theorem put_ {A : Array Value} {fuel : Int} {bM bR bO : Nat} {vR v19 v20 v21 v22 v23 v24 v25 v28 : Value} {w w1 wr : World} {own : Nat → Tag} {vT vD vC : Value} {G : List (Fr × Nat × Value)} {f : Fr} {b : Nat} {v : Value} {data told : List Int} {C : List (Rec × Value)} {R : Act → World → Prop} {K0 K2 : Act → World → Prop} {R0 : Ending → World → Prop} {r : Int × Int × St} {rm : List Fr} {bp bi gl cl_ : Nat} {a_ b_ c_ : Int} (hs : Sl A fuel bM bR bO vR (.pointer (some ⟨b, 0, none⟩)) (.pointer (some ⟨bp, 0, none⟩)) (.pointer (some ⟨bi, 0, none⟩)) v22 v23 (.slice (some ⟨gl, 0, none⟩) 1 cl_) v25 v28) (hbi : Block own wr bi #[.int .i64 5, .int .i64 a_, .int .i64 b_, .int .i64 c_] 27 (12, 0)) {j : Nat} (ha : a_ = j) (hj : j < 8) {y : Value} (hy : wr.cell? ⟨b, 2 + j, none⟩ = some y) (hz : wr.frozen? ⟨b, 2 + j, none⟩ = false) (hn1 : b ≠ bi) (hn2 : b ≠ gl) {x : Int} (hx : wr.cell? ⟨gl, 0, none⟩ = some (.int .i64 x)) (hcl : 1 ≤ cl_)
    (hR : ∀ A' W, Sl A' fuel bM bR bO vR (.pointer (some ⟨b, 0, none⟩)) (.pointer (some ⟨bp, 0, none⟩)) (.pointer (some ⟨bi, 0, none⟩)) v22 v23 (.slice (some ⟨gl, 0, none⟩) 1 cl_) (.slice none 0 0) v28 → W.os = wr.os → W.tape = wr.tape → W.output = wr.output → W.heap = (wr.setCell ⟨b, 2 + j, none⟩ (.int .i64 x)).heap → R ⟨A', []⟩ W) :
    RInv.upto Tryd.prog 2 (RInv.behind 13 (RInv.inside (RInv.behind 1 (((Tryd.f15.body.map RInv.loops).getD []).getD 1 .skip)))) R (Exit.inBlock 3 (Exit.then K0 (Exit.inBlock 2 (Exit.then K2 (bodyPost Tryd.prog Tryd.f15 R0))))) ⟨A, []⟩ wr := by
  obtain ⟨u, rfl⟩ := fold hs
  have i0 := hbi.cell 0 (v := .int .i64 5) rfl
  have i1 := hbi.cell 1 (v := .int .i64 a_) rfl
  subst ha
  have hn1' := hn1.symm
  have hn2' := hn2.symm
  have hjI : (j : Int) < 8 := by omega
  have HR : Hid _ := hR
  clear hs hbi hR
  conv => arg 3; whnf
  refine upto_seq ?_
  go_wp2
  refine upto_seq ?_
  go_wp2
  go_region_held3 (fun w' => w'.cell? ⟨bi, 1, none⟩ = some (.int .i64 j) ∧ w'.cell? ⟨gl, 0, none⟩ = some (.int .i64 x)) (go_keep) (fail)
  all_goals
    go_wp2
    exact HR.out _ _ ⟨rfl, rfl, rfl, rfl, rfl, rfl, rfl, rfl, rfl, rfl, rfl, rfl, rfl, rfl, rfl⟩ rfl rfl rfl rfl

set_option maxRecDepth 1000000 in
set_option maxHeartbeats 4000000 in
/-- Jump -/
theorem jump {A : Array Value} {fuel : Int} {bM bR bO : Nat} {vR v19 v20 v21 v22 v23 v24 v25 v28 : Value} {w w1 wr : World} {own : Nat → Tag} {vT vD vC : Value} {G : List (Fr × Nat × Value)} {f : Fr} {b : Nat} {v : Value} {data told : List Int} {C : List (Rec × Value)} {R : Act → World → Prop} {K0 K2 : Act → World → Prop} {R0 : Ending → World → Prop} {r : Int × Int × St} {rm : List Fr} {bp bi gl cl_ : Nat} {a_ b_ c_ : Int} (hs : Sl A fuel bM bR bO vR (.pointer (some ⟨b, 0, none⟩)) (.pointer (some ⟨bp, 0, none⟩)) (.pointer (some ⟨bi, 0, none⟩)) v22 v23 v24 v25 v28) (hbi : Block own wr bi #[.int .i64 9, .int .i64 a_, .int .i64 b_, .int .i64 c_] 27 (12, 0)) {y : Value} (hy : wr.cell? ⟨b, 1, none⟩ = some y) (hz : wr.frozen? ⟨b, 1, none⟩ = false)
    (hR : ∀ A' W, Sl A' fuel bM bR bO vR (.pointer (some ⟨b, 0, none⟩)) (.pointer (some ⟨bp, 0, none⟩)) (.pointer (some ⟨bi, 0, none⟩)) v22 v23 v24 (.slice none 0 0) v28 → W.os = wr.os → W.tape = wr.tape → W.output = wr.output → W.heap = (wr.setCell ⟨b, 1, none⟩ (.int .i64 a_)).heap → R ⟨A', []⟩ W) :
    RInv.upto Tryd.prog 2 (RInv.behind 13 (RInv.inside (RInv.behind 1 (((Tryd.f15.body.map RInv.loops).getD []).getD 1 .skip)))) R (Exit.inBlock 3 (Exit.then K0 (Exit.inBlock 2 (Exit.then K2 (bodyPost Tryd.prog Tryd.f15 R0))))) ⟨A, []⟩ wr := by
  obtain ⟨u, rfl⟩ := fold hs
  have i0 := hbi.cell 0 (v := .int .i64 9) rfl
  have i1 := hbi.cell 1 (v := .int .i64 a_) rfl
  have HR : Hid _ := hR
  clear hs hbi hR
  conv => arg 3; whnf
  refine upto_seq ?_
  go_wp2
  refine upto_seq ?_
  go_wp2
  exact HR.out _ _ ⟨rfl, rfl, rfl, rfl, rfl, rfl, rfl, rfl, rfl, rfl, rfl, rfl, rfl, rfl, rfl⟩ rfl rfl rfl rfl

set_option maxRecDepth 1000000 in
set_option maxHeartbeats 4000000 in
/-- Jz, of 0 -/
theorem jz_yes {A : Array Value} {fuel : Int} {bM bR bO : Nat} {vR v19 v20 v21 v22 v23 v24 v25 v28 : Value} {w w1 wr : World} {own : Nat → Tag} {vT vD vC : Value} {G : List (Fr × Nat × Value)} {f : Fr} {b : Nat} {v : Value} {data told : List Int} {C : List (Rec × Value)} {R : Act → World → Prop} {K0 K2 : Act → World → Prop} {R0 : Ending → World → Prop} {r : Int × Int × St} {rm : List Fr} {bp bi gl cl_ : Nat} {a_ b_ c_ : Int} (hs : Sl A fuel bM bR bO vR (.pointer (some ⟨b, 0, none⟩)) (.pointer (some ⟨bp, 0, none⟩)) (.pointer (some ⟨bi, 0, none⟩)) v22 v23 (.slice (some ⟨gl, 0, none⟩) 1 cl_) v25 v28) (hbi : Block own wr bi #[.int .i64 10, .int .i64 a_, .int .i64 b_, .int .i64 c_] 27 (12, 0)) {y : Value} (hy : wr.cell? ⟨b, 1, none⟩ = some y) (hz : wr.frozen? ⟨b, 1, none⟩ = false) (hx : wr.cell? ⟨gl, 0, none⟩ = some (.int .i64 0)) (hcl : 1 ≤ cl_)
    (hR : ∀ A' W, Sl A' fuel bM bR bO vR (.pointer (some ⟨b, 0, none⟩)) (.pointer (some ⟨bp, 0, none⟩)) (.pointer (some ⟨bi, 0, none⟩)) v22 v23 (.slice (some ⟨gl, 0, none⟩) 1 cl_) (.slice none 0 0) v28 → W.os = wr.os → W.tape = wr.tape → W.output = wr.output → W.heap = (wr.setCell ⟨b, 1, none⟩ (.int .i64 a_)).heap → R ⟨A', []⟩ W) :
    RInv.upto Tryd.prog 2 (RInv.behind 13 (RInv.inside (RInv.behind 1 (((Tryd.f15.body.map RInv.loops).getD []).getD 1 .skip)))) R (Exit.inBlock 3 (Exit.then K0 (Exit.inBlock 2 (Exit.then K2 (bodyPost Tryd.prog Tryd.f15 R0))))) ⟨A, []⟩ wr := by
  obtain ⟨u, rfl⟩ := fold hs
  have i0 := hbi.cell 0 (v := .int .i64 10) rfl
  have i1 := hbi.cell 1 (v := .int .i64 a_) rfl
  have HR : Hid _ := hR
  clear hs hbi hR
  conv => arg 3; whnf
  refine upto_seq ?_
  go_wp2
  refine upto_seq ?_
  go_wp2
  exact HR.out _ _ ⟨rfl, rfl, rfl, rfl, rfl, rfl, rfl, rfl, rfl, rfl, rfl, rfl, rfl, rfl, rfl⟩ rfl rfl rfl rfl

set_option maxRecDepth 1000000 in
set_option maxHeartbeats 4000000 in
/-- Jz, of another word -/
theorem jz_no {A : Array Value} {fuel : Int} {bM bR bO : Nat} {vR v19 v20 v21 v22 v23 v24 v25 v28 : Value} {w w1 wr : World} {own : Nat → Tag} {vT vD vC : Value} {G : List (Fr × Nat × Value)} {f : Fr} {b : Nat} {v : Value} {data told : List Int} {C : List (Rec × Value)} {R : Act → World → Prop} {K0 K2 : Act → World → Prop} {R0 : Ending → World → Prop} {r : Int × Int × St} {rm : List Fr} {bp bi gl cl_ : Nat} {a_ b_ c_ : Int} (hs : Sl A fuel bM bR bO vR (.pointer (some ⟨b, 0, none⟩)) (.pointer (some ⟨bp, 0, none⟩)) (.pointer (some ⟨bi, 0, none⟩)) v22 v23 (.slice (some ⟨gl, 0, none⟩) 1 cl_) v25 v28) (hbi : Block own wr bi #[.int .i64 10, .int .i64 a_, .int .i64 b_, .int .i64 c_] 27 (12, 0)) {x : Int} (hx : wr.cell? ⟨gl, 0, none⟩ = some (.int .i64 x)) (hcl : 1 ≤ cl_) (hx0 : (x == 0) = false)
    (hR : ∀ A' W, Sl A' fuel bM bR bO vR (.pointer (some ⟨b, 0, none⟩)) (.pointer (some ⟨bp, 0, none⟩)) (.pointer (some ⟨bi, 0, none⟩)) v22 v23 (.slice (some ⟨gl, 0, none⟩) 1 cl_) (.slice none 0 0) v28 → W.os = wr.os → W.tape = wr.tape → W.output = wr.output → W.heap = wr.heap → R ⟨A', []⟩ W) :
    RInv.upto Tryd.prog 2 (RInv.behind 13 (RInv.inside (RInv.behind 1 (((Tryd.f15.body.map RInv.loops).getD []).getD 1 .skip)))) R (Exit.inBlock 3 (Exit.then K0 (Exit.inBlock 2 (Exit.then K2 (bodyPost Tryd.prog Tryd.f15 R0))))) ⟨A, []⟩ wr := by
  obtain ⟨u, rfl⟩ := fold hs
  have i0 := hbi.cell 0 (v := .int .i64 10) rfl
  have i1 := hbi.cell 1 (v := .int .i64 a_) rfl
  have HR : Hid _ := hR
  clear hs hbi hR
  conv => arg 3; whnf
  refine upto_seq ?_
  go_wp2
  refine upto_seq ?_
  go_wp2
  exact HR.out _ _ ⟨rfl, rfl, rfl, rfl, rfl, rfl, rfl, rfl, rfl, rfl, rfl, rfl, rfl, rfl, rfl⟩ rfl rfl rfl rfl
end Go.Proofs.YtmbbkabecipkaacDoor.RArmA
