/-
  RunOf, A ROUND FROM ITS SWITCH ON: Push, Drop, Dup, Get, Put, Jump, Jz, Do, Trap.
  Conditions: each theorem's own hypotheses.
-/
import Derived.Test.YtmbbkabecipkaacDoorWhole28
import Derived.Test.YtmbbkabecipkaacDoorWhole29
import Derived.Test.YtmbbkabecipkaacDoorWhole32
namespace Go.Proofs.YtmbbkabecipkaacDoor.RSwA
open Go.RowKit Tab Go.Proofs.YtmbbkabecipkaacDoor.Check Lists Go.Proofs.YtmbbkabecipkaacDoor.Read Img Mach Own Go.Proofs.YtmbbkabecipkaacDoor.Inv RunBad RunNot RInv RSlot REnds Take MRun RPart RTake RFinish RJoin RFront RBack ActQ RMet
set_option linter.unusedVariables false

theorem push {A : Array Value} {fuel : Int} {bM bR bO b bp bi : Nat} {vR v22 v23 vl v25 v28 v vT vD vC : Value} {w w1 W : World} {own : Nat → Tag} {G : List (Fr × Nat × Value)} {f : Fr} {data told l : List Int} {C : List (Rec × Value)} {K0 K2 : Act → World → Prop} {R0 : Ending → World → Prop} {rm : List Fr} {ao : Option Addr} {len cap dlen : Nat} {P : Nat → PartD} {a b_ c_ : Int} (M : Met w w1 W own A fuel bM bR bO b bp bi vR v22 v23 vl v25 v28 vT vD vC v f G data told C l ao len cap dlen P 1 a b_ c_) (N : Ahead w w1 fuel bM bR bO K0 R0 (Mach.act wdoT P len ⟨rm, data, told, C.map Prod.fst⟩ f (G.map Prod.fst) 1 a b_ c_ l)) :
    Code.wp Tryd.prog (RInv.behind 13 (RInv.inside (RInv.behind 1 (((Tryd.f15.body.map RInv.loops).getD []).getD 1 .skip)))) (Exit.inBlock 3 (Exit.then K0 (Exit.inBlock 2 (Exit.then K2 (bodyPost Tryd.prog Tryd.f15 R0))))) ⟨A, []⟩ W := by
  obtain ⟨_, ⟨a0, a1⟩, ⟨b0, b1⟩, ⟨c0, c1⟩⟩ := fault_zero M.fault
  obtain rfl : l = [] := List.eq_nil_of_length_eq_zero (by rw [M.many]; simp [needs])
  rw [show Mach.act wdoT P len ⟨rm, data, told, C.map Prod.fst⟩ f (G.map Prod.fst) 1 a b_ c_ [] = puts ⟨rm, data, told, C.map Prod.fst⟩ f (G.map Prod.fst) [a] by simp [Mach.act]] at N
  refine piece 2 ?_
  refine RArmA.push (w := w) (w1 := w1) (vT := vT) (vD := vD) (vC := vC) (G := G) (f := f) (v := v) (data := data) (told := told) (C := C) (r := (0, 0, ⟨rm, data, told, C.map Prod.fst⟩)) (rm := rm) (v19 := v25) (v20 := v25) (v21 := v25) (gl := 0) (cl_ := 0) M.sl M.bi fun A2 W2 hs2 e0 e1 e2 e3 => ?_
  exact put_back N hs2 (M.inv.moves (n := 0) (m := 9) (new_moves e0 e1 e2 e3 (9, 9))) M.words M.begun (by simp) (by simp) (new_src e3)

theorem drop {A : Array Value} {fuel : Int} {bM bR bO b bp bi : Nat} {vR v22 v23 vl v25 v28 v vT vD vC : Value} {w w1 W : World} {own : Nat → Tag} {G : List (Fr × Nat × Value)} {f : Fr} {data told l : List Int} {C : List (Rec × Value)} {K0 K2 : Act → World → Prop} {R0 : Ending → World → Prop} {rm : List Fr} {ao : Option Addr} {len cap dlen : Nat} {P : Nat → PartD} {a b_ c_ : Int} (M : Met w w1 W own A fuel bM bR bO b bp bi vR v22 v23 vl v25 v28 vT vD vC v f G data told C l ao len cap dlen P 2 a b_ c_) (N : Ahead w w1 fuel bM bR bO K0 R0 (Mach.act wdoT P len ⟨rm, data, told, C.map Prod.fst⟩ f (G.map Prod.fst) 2 a b_ c_ l)) :
    Code.wp Tryd.prog (RInv.behind 13 (RInv.inside (RInv.behind 1 (((Tryd.f15.body.map RInv.loops).getD []).getD 1 .skip)))) (Exit.inBlock 3 (Exit.then K0 (Exit.inBlock 2 (Exit.then K2 (bodyPost Tryd.prog Tryd.f15 R0))))) ⟨A, []⟩ W := by
  obtain ⟨_, ⟨a0, a1⟩, ⟨b0, b1⟩, ⟨c0, c1⟩⟩ := fault_zero M.fault
  obtain ⟨x, rfl⟩ := List.length_eq_one_iff.1 (by rw [M.many]; simp [needs] : l.length = 1)
  obtain ⟨gl, cl_, rfl, ht, hcl, hx⟩ := one M.lies
  rw [show Mach.act wdoT P len ⟨rm, data, told, C.map Prod.fst⟩ f (G.map Prod.fst) 2 a b_ c_ [x] = puts ⟨rm, data, told, C.map Prod.fst⟩ f (G.map Prod.fst) [] by simp [Mach.act]] at N
  refine piece 2 ?_
  refine RArmA.drop (w := w) (w1 := w1) (vT := vT) (vD := vD) (vC := vC) (G := G) (f := f) (v := v) (data := data) (told := told) (C := C) (r := (0, 0, ⟨rm, data, told, C.map Prod.fst⟩)) (rm := rm) (v19 := v25) (v20 := v25) (v21 := v25) (gl := 0) (cl_ := 0) M.sl M.bi fun A2 W2 hs2 e0 e1 e2 e3 => ?_
  exact none_back N hs2 (M.inv.moves (n := 0) (m := 9) (same_moves e0 e1 e2 e3 (9, 9))) M.words

theorem dup {A : Array Value} {fuel : Int} {bM bR bO b bp bi : Nat} {vR v22 v23 vl v25 v28 v vT vD vC : Value} {w w1 W : World} {own : Nat → Tag} {G : List (Fr × Nat × Value)} {f : Fr} {data told l : List Int} {C : List (Rec × Value)} {K0 K2 : Act → World → Prop} {R0 : Ending → World → Prop} {rm : List Fr} {ao : Option Addr} {len cap dlen : Nat} {P : Nat → PartD} {a b_ c_ : Int} (M : Met w w1 W own A fuel bM bR bO b bp bi vR v22 v23 vl v25 v28 vT vD vC v f G data told C l ao len cap dlen P 3 a b_ c_) (N : Ahead w w1 fuel bM bR bO K0 R0 (Mach.act wdoT P len ⟨rm, data, told, C.map Prod.fst⟩ f (G.map Prod.fst) 3 a b_ c_ l)) :
    Code.wp Tryd.prog (RInv.behind 13 (RInv.inside (RInv.behind 1 (((Tryd.f15.body.map RInv.loops).getD []).getD 1 .skip)))) (Exit.inBlock 3 (Exit.then K0 (Exit.inBlock 2 (Exit.then K2 (bodyPost Tryd.prog Tryd.f15 R0))))) ⟨A, []⟩ W := by
  obtain ⟨_, ⟨a0, a1⟩, ⟨b0, b1⟩, ⟨c0, c1⟩⟩ := fault_zero M.fault
  obtain ⟨x, rfl⟩ := List.length_eq_one_iff.1 (by rw [M.many]; simp [needs] : l.length = 1)
  obtain ⟨gl, cl_, rfl, ht, hcl, hx⟩ := one M.lies
  rw [show Mach.act wdoT P len ⟨rm, data, told, C.map Prod.fst⟩ f (G.map Prod.fst) 3 a b_ c_ [x] = puts ⟨rm, data, told, C.map Prod.fst⟩ f (G.map Prod.fst) [x, x] by simp [Mach.act]] at N
  refine piece 2 ?_
  refine RArmA.dup (w := w) (w1 := w1) (vT := vT) (vD := vD) (vC := vC) (G := G) (f := f) (v := v) (data := data) (told := told) (C := C) (r := (0, 0, ⟨rm, data, told, C.map Prod.fst⟩)) (rm := rm) (v19 := v25) (v20 := v25) (v21 := v25) (v24 := v25) M.sl M.bi hx hcl fun A2 W2 hs2 e0 e1 e2 e3 => ?_
  exact put_back N hs2 (M.inv.moves (n := 0) (m := 9) (new_moves e0 e1 e2 e3 (9, 9))) M.words M.begun (by simp) (by simp) (new_src e3)

theorem get {A : Array Value} {fuel : Int} {bM bR bO b bp bi : Nat} {vR v22 v23 vl v25 v28 v vT vD vC : Value} {w w1 W : World} {own : Nat → Tag} {G : List (Fr × Nat × Value)} {f : Fr} {data told l : List Int} {C : List (Rec × Value)} {K0 K2 : Act → World → Prop} {R0 : Ending → World → Prop} {rm : List Fr} {ao : Option Addr} {len cap dlen : Nat} {P : Nat → PartD} {a b_ c_ : Int} (M : Met w w1 W own A fuel bM bR bO b bp bi vR v22 v23 vl v25 v28 vT vD vC v f G data told C l ao len cap dlen P 4 a b_ c_) (N : Ahead w w1 fuel bM bR bO K0 R0 (Mach.act wdoT P len ⟨rm, data, told, C.map Prod.fst⟩ f (G.map Prod.fst) 4 a b_ c_ l)) :
    Code.wp Tryd.prog (RInv.behind 13 (RInv.inside (RInv.behind 1 (((Tryd.f15.body.map RInv.loops).getD []).getD 1 .skip)))) (Exit.inBlock 3 (Exit.then K0 (Exit.inBlock 2 (Exit.then K2 (bodyPost Tryd.prog Tryd.f15 R0))))) ⟨A, []⟩ W := by
  obtain ⟨_, ⟨a0, a1⟩, ⟨b0, b1⟩, ⟨c0, c1⟩⟩ := fault_zero M.fault
  obtain rfl : l = [] := List.eq_nil_of_length_eq_zero (by rw [M.many]; simp [needs])
  obtain ⟨j, rfl⟩ : ∃ j : Nat, a = j := ⟨a.toNat, by simp [row, rows] at a0; omega⟩
  rw [show Mach.act wdoT P len ⟨rm, data, told, C.map Prod.fst⟩ f (G.map Prod.fst) 4 j b_ c_ [] = puts ⟨rm, data, told, C.map Prod.fst⟩ f (G.map Prod.fst) [f.locals.getD j 0] by simp [Mach.act]] at N
  have hj : j < 8 := by simp [row, rows] at a1; omega
  have hx := M.inv.rooms.1.1.cell (2 + j) (by simpa using ActA.local_at M.inv.rooms.1.2.2 hj)
  refine piece 2 ?_
  refine RArmA.get (w := w) (w1 := w1) (vT := vT) (vD := vD) (vC := vC) (G := G) (f := f) (v := v) (data := data) (told := told) (C := C) (r := (0, 0, ⟨rm, data, told, C.map Prod.fst⟩)) (rm := rm) (v19 := v25) (v20 := v25) (v21 := v25) (gl := 0) (cl_ := 0) M.sl M.bi rfl hj hx fun A2 W2 hs2 e0 e1 e2 e3 => ?_
  exact put_back N hs2 (M.inv.moves (n := 0) (m := 9) (new_moves e0 e1 e2 e3 (9, 9))) M.words M.begun (by simp) (by simp) (new_src e3)

theorem put_ {A : Array Value} {fuel : Int} {bM bR bO b bp bi : Nat} {vR v22 v23 vl v25 v28 v vT vD vC : Value} {w w1 W : World} {own : Nat → Tag} {G : List (Fr × Nat × Value)} {f : Fr} {data told l : List Int} {C : List (Rec × Value)} {K0 K2 : Act → World → Prop} {R0 : Ending → World → Prop} {rm : List Fr} {ao : Option Addr} {len cap dlen : Nat} {P : Nat → PartD} {a b_ c_ : Int} (M : Met w w1 W own A fuel bM bR bO b bp bi vR v22 v23 vl v25 v28 vT vD vC v f G data told C l ao len cap dlen P 5 a b_ c_) (N : Ahead w w1 fuel bM bR bO K0 R0 (Mach.act wdoT P len ⟨rm, data, told, C.map Prod.fst⟩ f (G.map Prod.fst) 5 a b_ c_ l)) :
    Code.wp Tryd.prog (RInv.behind 13 (RInv.inside (RInv.behind 1 (((Tryd.f15.body.map RInv.loops).getD []).getD 1 .skip)))) (Exit.inBlock 3 (Exit.then K0 (Exit.inBlock 2 (Exit.then K2 (bodyPost Tryd.prog Tryd.f15 R0))))) ⟨A, []⟩ W := by
  obtain ⟨_, ⟨a0, a1⟩, ⟨b0, b1⟩, ⟨c0, c1⟩⟩ := fault_zero M.fault
  obtain ⟨x, rfl⟩ := List.length_eq_one_iff.1 (by rw [M.many]; simp [needs] : l.length = 1)
  obtain ⟨gl, cl_, rfl, ht, hcl, hx⟩ := one M.lies
  obtain ⟨j, rfl⟩ : ∃ j : Nat, a = j := ⟨a.toNat, by simp [row, rows] at a0; omega⟩
  rw [show Mach.act wdoT P len ⟨rm, data, told, C.map Prod.fst⟩ f (G.map Prod.fst) 5 j b_ c_ [x] = puts ⟨rm, data, told, C.map Prod.fst⟩ { f with locals := f.locals.set j x } (G.map Prod.fst) [] by simp [Mach.act]] at N
  have hj : j < 8 := by simp [row, rows] at a1; omega
  have hy := M.inv.rooms.1.1.cell (2 + j) (by simpa using ActA.local_at M.inv.rooms.1.2.2 hj)
  have hset := M.inv.top_set (f' := { f with locals := f.locals.set j x }) (2 + j) (.int .i64 x) (ActA.local_set M.inv.rooms.1.2.2 hj x) rfl (by simpa using M.inv.rooms.1.2.2)
  refine piece 2 ?_
  refine RArmA.put_ (w := w) (w1 := w1) (vT := vT) (vD := vD) (vC := vC) (G := G) (f := f) (v := v) (data := data) (told := told) (C := C) (r := (0, 0, ⟨rm, data, told, C.map Prod.fst⟩)) (rm := rm) (v19 := v25) (v20 := v25) (v21 := v25) (v24 := v25) M.sl M.bi rfl hj hy (M.inv.rooms.1.1.frozen _) (ne_of_tag M.inv.rooms.1.1.tag M.bi.tag (by simp)) (ne_of_tag M.inv.rooms.1.1.tag ht (by simp)) hx hcl fun A2 W2 hs2 e0 e1 e2 e3 => ?_
  exact none_back N hs2 (hset.moves (n := 0) (m := 9) (same_moves (w := W.setCell ⟨b, 2 + j, none⟩ (.int .i64 x)) e0 e1 e2 e3 (9, 9))) M.words

theorem jump {A : Array Value} {fuel : Int} {bM bR bO b bp bi : Nat} {vR v22 v23 vl v25 v28 v vT vD vC : Value} {w w1 W : World} {own : Nat → Tag} {G : List (Fr × Nat × Value)} {f : Fr} {data told l : List Int} {C : List (Rec × Value)} {K0 K2 : Act → World → Prop} {R0 : Ending → World → Prop} {rm : List Fr} {ao : Option Addr} {len cap dlen : Nat} {P : Nat → PartD} {a b_ c_ : Int} (M : Met w w1 W own A fuel bM bR bO b bp bi vR v22 v23 vl v25 v28 vT vD vC v f G data told C l ao len cap dlen P 9 a b_ c_) (N : Ahead w w1 fuel bM bR bO K0 R0 (Mach.act wdoT P len ⟨rm, data, told, C.map Prod.fst⟩ f (G.map Prod.fst) 9 a b_ c_ l)) :
    Code.wp Tryd.prog (RInv.behind 13 (RInv.inside (RInv.behind 1 (((Tryd.f15.body.map RInv.loops).getD []).getD 1 .skip)))) (Exit.inBlock 3 (Exit.then K0 (Exit.inBlock 2 (Exit.then K2 (bodyPost Tryd.prog Tryd.f15 R0))))) ⟨A, []⟩ W := by
  obtain ⟨_, ⟨a0, a1⟩, ⟨b0, b1⟩, ⟨c0, c1⟩⟩ := fault_zero M.fault
  obtain rfl : l = [] := List.eq_nil_of_length_eq_zero (by rw [M.many]; simp [needs])
  obtain ⟨j, rfl⟩ : ∃ j : Nat, a = j := ⟨a.toNat, by simp [row, rows] at a0; omega⟩
  rw [show Mach.act wdoT P len ⟨rm, data, told, C.map Prod.fst⟩ f (G.map Prod.fst) 9 j b_ c_ [] = puts ⟨rm, data, told, C.map Prod.fst⟩ { f with pc := j } (G.map Prod.fst) [] by simp [Mach.act]] at N
  have hy := M.inv.rooms.1.1.cell 1 (v := .int .i64 f.pc) rfl
  have hset := M.inv.top_set (f' := { f with pc := j }) 1 (.int .i64 j) rfl rfl M.inv.rooms.1.2.2
  refine piece 2 ?_
  refine RArmA.jump (w := w) (w1 := w1) (vT := vT) (vD := vD) (vC := vC) (G := G) (f := f) (v := v) (data := data) (told := told) (C := C) (r := (0, 0, ⟨rm, data, told, C.map Prod.fst⟩)) (rm := rm) (v19 := v25) (v20 := v25) (v21 := v25) (gl := 0) (cl_ := 0) M.sl M.bi hy (M.inv.rooms.1.1.frozen _) fun A2 W2 hs2 e0 e1 e2 e3 => ?_
  exact none_back N hs2 (hset.moves (n := 0) (m := 9) (same_moves (w := W.setCell ⟨b, 1, none⟩ (.int .i64 j)) e0 e1 e2 e3 (9, 9))) M.words

theorem jz {A : Array Value} {fuel : Int} {bM bR bO b bp bi : Nat} {vR v22 v23 vl v25 v28 v vT vD vC : Value} {w w1 W : World} {own : Nat → Tag} {G : List (Fr × Nat × Value)} {f : Fr} {data told l : List Int} {C : List (Rec × Value)} {K0 K2 : Act → World → Prop} {R0 : Ending → World → Prop} {rm : List Fr} {ao : Option Addr} {len cap dlen : Nat} {P : Nat → PartD} {a b_ c_ : Int} (M : Met w w1 W own A fuel bM bR bO b bp bi vR v22 v23 vl v25 v28 vT vD vC v f G data told C l ao len cap dlen P 10 a b_ c_) (N : Ahead w w1 fuel bM bR bO K0 R0 (Mach.act wdoT P len ⟨rm, data, told, C.map Prod.fst⟩ f (G.map Prod.fst) 10 a b_ c_ l)) :
    Code.wp Tryd.prog (RInv.behind 13 (RInv.inside (RInv.behind 1 (((Tryd.f15.body.map RInv.loops).getD []).getD 1 .skip)))) (Exit.inBlock 3 (Exit.then K0 (Exit.inBlock 2 (Exit.then K2 (bodyPost Tryd.prog Tryd.f15 R0))))) ⟨A, []⟩ W := by
  obtain ⟨_, ⟨a0, a1⟩, ⟨b0, b1⟩, ⟨c0, c1⟩⟩ := fault_zero M.fault
  obtain ⟨x, rfl⟩ := List.length_eq_one_iff.1 (by rw [M.many]; simp [needs] : l.length = 1)
  obtain ⟨gl, cl_, rfl, ht, hcl, hx⟩ := one M.lies
  obtain ⟨j, rfl⟩ : ∃ j : Nat, a = j := ⟨a.toNat, by simp [row, rows] at a0; omega⟩
  rw [show Mach.act wdoT P len ⟨rm, data, told, C.map Prod.fst⟩ f (G.map Prod.fst) 10 j b_ c_ [x] = puts ⟨rm, data, told, C.map Prod.fst⟩ (if x = 0 then { f with pc := j } else f) (G.map Prod.fst) [] by simp [Mach.act]] at N
  have hy := M.inv.rooms.1.1.cell 1 (v := .int .i64 f.pc) rfl
  have hset := M.inv.top_set (f' := { f with pc := j }) 1 (.int .i64 j) rfl rfl M.inv.rooms.1.2.2
  refine piece 2 ?_
  by_cases hx0 : x = 0
  · subst hx0
    rw [if_pos rfl] at N
    refine RArmA.jz_yes (w := w) (w1 := w1) (vT := vT) (vD := vD) (vC := vC) (G := G) (f := f) (v := v) (data := data) (told := told) (C := C) (r := (0, 0, ⟨rm, data, told, C.map Prod.fst⟩)) (rm := rm) (v19 := v25) (v20 := v25) (v21 := v25) (v24 := v25) M.sl M.bi hy (M.inv.rooms.1.1.frozen _) hx hcl fun A2 W2 hs2 e0 e1 e2 e3 => ?_
    exact none_back N hs2 (hset.moves (n := 0) (m := 9) (same_moves (w := W.setCell ⟨b, 1, none⟩ (.int .i64 j)) e0 e1 e2 e3 (9, 9))) M.words
  · rw [if_neg hx0] at N
    refine RArmA.jz_no (w := w) (w1 := w1) (vT := vT) (vD := vD) (vC := vC) (G := G) (f := f) (v := v) (data := data) (told := told) (C := C) (r := (0, 0, ⟨rm, data, told, C.map Prod.fst⟩)) (rm := rm) (v19 := v25) (v20 := v25) (v21 := v25) (v24 := v25) M.sl M.bi hx hcl (beq_eq_false_iff_ne.2 hx0) fun A2 W2 hs2 e0 e1 e2 e3 => ?_
    exact none_back N hs2 (M.inv.moves (n := 0) (m := 9) (same_moves e0 e1 e2 e3 (9, 9))) M.words

theorem do_ {A : Array Value} {fuel : Int} {bM bR bO b bp bi : Nat} {vR v22 v23 vl v25 v28 v vT vD vC : Value} {w w1 W : World} {own : Nat → Tag} {G : List (Fr × Nat × Value)} {f : Fr} {data told l : List Int} {C : List (Rec × Value)} {K0 K2 : Act → World → Prop} {R0 : Ending → World → Prop} {rm : List Fr} {ao : Option Addr} {len cap dlen : Nat} {P : Nat → PartD} {a b_ c_ : Int} (M : Met w w1 W own A fuel bM bR bO b bp bi vR v22 v23 vl v25 v28 vT vD vC v f G data told C l ao len cap dlen P 8 a b_ c_) (N : Ahead w w1 fuel bM bR bO K0 R0 (Mach.act wdoT P len ⟨rm, data, told, C.map Prod.fst⟩ f (G.map Prod.fst) 8 a b_ c_ l)) :
    Code.wp Tryd.prog (RInv.behind 13 (RInv.inside (RInv.behind 1 (((Tryd.f15.body.map RInv.loops).getD []).getD 1 .skip)))) (Exit.inBlock 3 (Exit.then K0 (Exit.inBlock 2 (Exit.then K2 (bodyPost Tryd.prog Tryd.f15 R0))))) ⟨A, []⟩ W := by
  obtain ⟨_, ⟨a0, a1⟩, ⟨b0, b1⟩, ⟨c0, c1⟩⟩ := fault_zero M.fault
  obtain ⟨x, y, rfl⟩ := two_of (by rw [M.many]; simp [needs] : l.length = 2)
  obtain ⟨gl, cl_, rfl, ht, hcl, hx, hy⟩ := two M.lies
  rw [show Mach.act wdoT P len ⟨rm, data, told, C.map Prod.fst⟩ f (G.map Prod.fst) 8 a b_ c_ [x, y] = puts ⟨rm, data, told, C.map Prod.fst⟩ f (G.map Prod.fst) [wdoT a x y] by simp [Mach.act]] at N
  refine piece 2 ?_
  refine RArmB.do_ (w := w) (w1 := w1) (vT := vT) (vD := vD) (vC := vC) (G := G) (f := f) (v := v) (data := data) (told := told) (C := C) (r := (0, 0, ⟨rm, data, told, C.map Prod.fst⟩)) (rm := rm) (v19 := v25) (v20 := v25) (v21 := v25) (v24 := v25) M.sl M.bi hx hy hcl (by simp [row, rows] at a0; omega) (by simp [row, rows] at a1; omega) fun A2 W2 hs2 e0 e1 e2 e3 => ?_
  exact put_back N hs2 (M.inv.moves (n := 0) (m := 9) (new_moves e0 e1 e2 e3 (9, 9))) M.words M.begun (by simp) (by simp) (new_src e3)

theorem trap {A : Array Value} {fuel : Int} {bM bR bO b bp bi : Nat} {vR v22 v23 vl v25 v28 v vT vD vC : Value} {w w1 W : World} {own : Nat → Tag} {G : List (Fr × Nat × Value)} {f : Fr} {data told l : List Int} {C : List (Rec × Value)} {K0 K2 : Act → World → Prop} {R0 : Ending → World → Prop} {rm : List Fr} {ao : Option Addr} {len cap dlen : Nat} {P : Nat → PartD} {a b_ c_ : Int} (M : Met w w1 W own A fuel bM bR bO b bp bi vR v22 v23 vl v25 v28 vT vD vC v f G data told C l ao len cap dlen P 15 a b_ c_) (N : Ahead w w1 fuel bM bR bO K0 R0 (Mach.act wdoT P len ⟨rm, data, told, C.map Prod.fst⟩ f (G.map Prod.fst) 15 a b_ c_ l)) :
    Code.wp Tryd.prog (RInv.behind 13 (RInv.inside (RInv.behind 1 (((Tryd.f15.body.map RInv.loops).getD []).getD 1 .skip)))) (Exit.inBlock 3 (Exit.then K0 (Exit.inBlock 2 (Exit.then K2 (bodyPost Tryd.prog Tryd.f15 R0))))) ⟨A, []⟩ W := by
  obtain ⟨_, ⟨a0, a1⟩, ⟨b0, b1⟩, ⟨c0, c1⟩⟩ := fault_zero M.fault
  obtain rfl : l = [] := List.eq_nil_of_length_eq_zero (by rw [M.many]; simp [needs])
  rw [show Mach.act wdoT P len ⟨rm, data, told, C.map Prod.fst⟩ f (G.map Prod.fst) 15 a b_ c_ [] = ends 2 0 ⟨rm, data, told, C.map Prod.fst⟩ by simp [Mach.act]] at N
  refine piece 2 ?_
  exact RArmB.trap (f := f) (v := v) (v19 := v25) (v20 := v25) (v21 := v25) (gl := 0) (cl_ := 0) M.sl M.bi M.inv M.begun rfl (N.ends _ _ _ rfl)
end Go.Proofs.YtmbbkabecipkaacDoor.RSwA
