/-
  RunOf, A ROUND FROM ITS SWITCH ON: Load, Store, Tell.
  Conditions: each theorem's own hypotheses.
-/
import Derived.Test.YtmbbkabecipkaacDoorWhole28
import Derived.Test.YtmbbkabecipkaacDoorWhole32
import Derived.Test.YtmbbkabecipkaacDoorWhole34
namespace Go.Proofs.YtmbbkabecipkaacDoor.RSwB
open Go.RowKit Tab Go.Proofs.YtmbbkabecipkaacDoor.Check Lists Go.Proofs.YtmbbkabecipkaacDoor.Read Img Mach Own Go.Proofs.YtmbbkabecipkaacDoor.Inv RunBad RunNot RInv RSlot REnds Take MRun RPart RTake RFinish RJoin RFront RBack ActQ RMet
set_option linter.unusedVariables false

theorem load {A : Array Value} {fuel : Int} {bM bR bO b bp bi : Nat} {vR v22 v23 vl v25 v28 v vT vD vC : Value} {w w1 W : World} {own : Nat → Tag} {G : List (Fr × Nat × Value)} {f : Fr} {data told l : List Int} {C : List (Rec × Value)} {K0 K2 : Act → World → Prop} {R0 : Ending → World → Prop} {rm : List Fr} {ao : Option Addr} {len cap dlen : Nat} {P : Nat → PartD} {a b_ c_ : Int} (M : Met w w1 W own A fuel bM bR bO b bp bi vR v22 v23 vl v25 v28 vT vD vC v f G data told C l ao len cap dlen P 6 a b_ c_) (N : Ahead w w1 fuel bM bR bO K0 R0 (Mach.act wdoT P len ⟨rm, data, told, C.map Prod.fst⟩ f (G.map Prod.fst) 6 a b_ c_ l)) :
    Code.wp Tryd.prog (RInv.behind 13 (RInv.inside (RInv.behind 1 (((Tryd.f15.body.map RInv.loops).getD []).getD 1 .skip)))) (Exit.inBlock 3 (Exit.then K0 (Exit.inBlock 2 (Exit.then K2 (bodyPost Tryd.prog Tryd.f15 R0))))) ⟨A, []⟩ W := by
  obtain ⟨_, ⟨a0, a1⟩, ⟨b0, b1⟩, ⟨c0, c1⟩⟩ := fault_zero M.fault
  obtain ⟨x, rfl⟩ := List.length_eq_one_iff.1 (by rw [M.many]; simp [needs] : l.length = 1)
  obtain ⟨gl, cl_, rfl, ht, hcl, hx⟩ := one M.lies
  rw [show Mach.act wdoT P len ⟨rm, data, told, C.map Prod.fst⟩ f (G.map Prod.fst) 6 a b_ c_ [x] = if (P f.part).lo ≤ x ∧ x < (P f.part).hi then puts ⟨rm, data, told, C.map Prod.fst⟩ f (G.map Prod.fst) [data.getD x.toNat 0] else ends 4 0 ⟨rm, data, told, C.map Prod.fst⟩ by simp [Mach.act]] at N
  have hlo := M.sure.own _ M.part
  have hdd := M.data
  refine piece 2 ?_
  by_cases ho : (P f.part).lo ≤ x ∧ x < (P f.part).hi
  · rw [if_pos ho] at N
    obtain ⟨k, rfl⟩ : ∃ k : Nat, x = k := ⟨x.toNat, by omega⟩
    have hk0 : 0 < data.length := by omega
    obtain ⟨gD, cD, rfl, htD, hcD, _⟩ := M.inv.dat.form hk0
    have hkd : k < data.length := by omega
    have hy := M.inv.dat.cell k (u := .int .i64 (data.getD k 0)) (by simp [ints, List.getD_eq_getElem?_getD, List.getElem?_eq_getElem hkd])
    refine RArmB.load_on (w := w) (w1 := w1) (vT := vT) (vD := .slice (some ⟨gD, 0, none⟩) data.length cD) (vC := vC) (G := G) (f := f) (v := v) (data := data) (told := told) (C := C) (r := (0, 0, ⟨rm, data, told, C.map Prod.fst⟩)) (rm := rm) (v19 := v25) (v20 := v25) (v21 := v25) (v24 := v25) M.sl M.bi M.bp hx hcl hlo.1 (by omega) ho.1 ho.2 M.inv.out (by omega) hkd hy fun A2 W2 hs2 e0 e1 e2 e3 => ?_
    exact put_back N hs2 (M.inv.moves (n := 0) (m := 9) (new_moves e0 e1 e2 e3 (9, 9))) M.words M.begun (by simp) (by simp) (new_src e3)
  · rw [if_neg ho] at N
    exact RArmB.load_off (f := f) (v := v) (v19 := v25) (v20 := v25) (v21 := v25) (v24 := v25) M.sl M.bi M.bp hx hcl hlo.1 (by omega) M.hi0 ho M.inv M.begun rfl (N.ends _ _ _ rfl)

theorem store {A : Array Value} {fuel : Int} {bM bR bO b bp bi : Nat} {vR v22 v23 vl v25 v28 v vT vD vC : Value} {w w1 W : World} {own : Nat → Tag} {G : List (Fr × Nat × Value)} {f : Fr} {data told l : List Int} {C : List (Rec × Value)} {K0 K2 : Act → World → Prop} {R0 : Ending → World → Prop} {rm : List Fr} {ao : Option Addr} {len cap dlen : Nat} {P : Nat → PartD} {a b_ c_ : Int} (M : Met w w1 W own A fuel bM bR bO b bp bi vR v22 v23 vl v25 v28 vT vD vC v f G data told C l ao len cap dlen P 7 a b_ c_) (N : Ahead w w1 fuel bM bR bO K0 R0 (Mach.act wdoT P len ⟨rm, data, told, C.map Prod.fst⟩ f (G.map Prod.fst) 7 a b_ c_ l)) :
    Code.wp Tryd.prog (RInv.behind 13 (RInv.inside (RInv.behind 1 (((Tryd.f15.body.map RInv.loops).getD []).getD 1 .skip)))) (Exit.inBlock 3 (Exit.then K0 (Exit.inBlock 2 (Exit.then K2 (bodyPost Tryd.prog Tryd.f15 R0))))) ⟨A, []⟩ W := by
  obtain ⟨_, ⟨a0, a1⟩, ⟨b0, b1⟩, ⟨c0, c1⟩⟩ := fault_zero M.fault
  obtain ⟨x, y, rfl⟩ := two_of (by rw [M.many]; simp [needs] : l.length = 2)
  obtain ⟨gl, cl_, rfl, ht, hcl, hx, hy⟩ := two M.lies
  rw [show Mach.act wdoT P len ⟨rm, data, told, C.map Prod.fst⟩ f (G.map Prod.fst) 7 a b_ c_ [x, y] = if (P f.part).lo ≤ x ∧ x < (P f.part).hi then puts ⟨rm, data.set x.toNat y, told, C.map Prod.fst⟩ f (G.map Prod.fst) [] else ends 4 0 ⟨rm, data, told, C.map Prod.fst⟩ by simp [Mach.act]] at N
  have hlo := M.sure.own _ M.part
  have hdd := M.data
  refine piece 2 ?_
  by_cases ho : (P f.part).lo ≤ x ∧ x < (P f.part).hi
  · rw [if_pos ho] at N
    obtain ⟨k, rfl⟩ : ∃ k : Nat, x = k := ⟨x.toNat, by omega⟩
    have hk0 : 0 < data.length := by omega
    obtain ⟨gD, cD, rfl, htD, hcD, _⟩ := M.inv.dat.form hk0
    have hkd : k < data.length := by omega
    have hz := M.inv.dat.cell k (u := .int .i64 (data.getD k 0)) (by simp [ints, List.getD_eq_getElem?_getD, List.getElem?_eq_getElem hkd])
    have hset := RInv.data_set (k := k) (x := y) M.inv
    refine RArmB.store_on (w := w) (w1 := w1) (vT := vT) (vD := .slice (some ⟨gD, 0, none⟩) data.length cD) (vC := vC) (G := G) (f := f) (v := v) (data := data) (told := told) (C := C) (r := (0, 0, ⟨rm, data, told, C.map Prod.fst⟩)) (rm := rm) (v19 := v25) (v20 := v25) (v21 := v25) (v24 := v25) M.sl M.bi M.bp hx hy hcl hlo.1 (by omega) ho.1 ho.2 M.inv.out (by omega) hkd hz (M.inv.dat.frozen k) (ne_of_tag htD ht (by simp)) (ne_of_tag htD M.inv.out.tag (by simp)) fun A2 W2 hs2 e0 e1 e2 e3 => ?_
    exact none_back N hs2 (hset.moves (n := 0) (m := 9) (same_moves (w := W.setCell ⟨gD, k, none⟩ (.int .i64 y)) e0 e1 e2 e3 (9, 9))) M.words
  · rw [if_neg ho] at N
    exact RArmB.store_off (f := f) (v := v) (v19 := v25) (v20 := v25) (v21 := v25) (v24 := v25) M.sl M.bi M.bp hx hcl hlo.1 (by omega) M.hi0 ho M.inv M.begun rfl (N.ends _ _ _ rfl)

theorem tell {A : Array Value} {fuel : Int} {bM bR bO b bp bi : Nat} {vR v22 v23 vl v25 v28 v vT vD vC : Value} {w w1 W : World} {own : Nat → Tag} {G : List (Fr × Nat × Value)} {f : Fr} {data told l : List Int} {C : List (Rec × Value)} {K0 K2 : Act → World → Prop} {R0 : Ending → World → Prop} {rm : List Fr} {ao : Option Addr} {len cap dlen : Nat} {P : Nat → PartD} {a b_ c_ : Int} (M : Met w w1 W own A fuel bM bR bO b bp bi vR v22 v23 vl v25 v28 vT vD vC v f G data told C l ao len cap dlen P 14 a b_ c_) (N : Ahead w w1 fuel bM bR bO K0 R0 (Mach.act wdoT P len ⟨rm, data, told, C.map Prod.fst⟩ f (G.map Prod.fst) 14 a b_ c_ l)) :
    Code.wp Tryd.prog (RInv.behind 13 (RInv.inside (RInv.behind 1 (((Tryd.f15.body.map RInv.loops).getD []).getD 1 .skip)))) (Exit.inBlock 3 (Exit.then K0 (Exit.inBlock 2 (Exit.then K2 (bodyPost Tryd.prog Tryd.f15 R0))))) ⟨A, []⟩ W := by
  obtain ⟨_, ⟨a0, a1⟩, ⟨b0, b1⟩, ⟨c0, c1⟩⟩ := fault_zero M.fault
  obtain ⟨x, rfl⟩ := List.length_eq_one_iff.1 (by rw [M.many]; simp [needs] : l.length = 1)
  obtain ⟨gl, cl_, rfl, ht, hcl, hx⟩ := one M.lies
  rw [show Mach.act wdoT P len ⟨rm, data, told, C.map Prod.fst⟩ f (G.map Prod.fst) 14 a b_ c_ [x] = if told.length < 500 then puts ⟨rm, data, told ++ [x], C.map Prod.fst⟩ f (G.map Prod.fst) [] else ends 6 0 ⟨rm, data, told, C.map Prod.fst⟩ by simp [Mach.act]] at N
  refine piece 2 ?_
  by_cases ho : told.length < 500
  · rw [if_pos ho] at N
    refine RArmC.tell_on (w := w) (r := (0, 0, ⟨rm, data, told, C.map Prod.fst⟩)) (rm := rm) (v19 := v25) (v20 := v25) (v21 := v25) (v24 := v25) M.sl M.bi hx hcl ho M.inv fun A2 own2 W2 v2 hs2 h2 => ?_
    exact none_back N hs2 h2 M.words
  · rw [if_neg ho] at N
    exact RArmC.tell_off (f := f) (v := v) (v19 := v25) (v20 := v25) (v21 := v25) (v24 := v25) M.sl M.bi hx hcl (by have := M.told; omega) M.inv M.begun rfl (N.ends _ _ _ rfl)
end Go.Proofs.YtmbbkabecipkaacDoor.RSwB
