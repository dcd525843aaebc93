/-
  RunOf, A ROUND FROM ITS SWITCH ON: Ret.
  Conditions: each theorem's own hypotheses.
-/
import Derived.Test.YtmbbkabecipkaacDoorWhole28
import Derived.Test.YtmbbkabecipkaacDoorWhole36
import Derived.Test.YtmbbkabecipkaacDoorWhole37
namespace Go.Proofs.YtmbbkabecipkaacDoor.RSwC
open Go.RowKit Tab Go.Proofs.YtmbbkabecipkaacDoor.Check Lists Go.Proofs.YtmbbkabecipkaacDoor.Read Img Mach Own Go.Proofs.YtmbbkabecipkaacDoor.Inv RunBad RunNot RInv RSlot REnds Take MRun RPart RTake RFinish RJoin RFront RBack ActQ RMet
set_option linter.unusedVariables false

theorem rdone {own : Nat → Tag} {w1 w : World} {bO : Nat} {vR vT vD : Value} {G : List (Fr × Nat × Value)} {data told : List Int} {C : List (Rec × Value)} {gC capC k : Nat} (h : RInv own w1 w bO vR vT vD (.slice (some ⟨gC, 0, none⟩) C.length capC) G data told C) (hk : k < C.length) (x : Int) :
    RInv own w1 ((w.setCell ⟨gC, k * 7 + 5, none⟩ (.bool true)).setCell ⟨gC, k * 7 + 6, none⟩ (.int .i64 x)) bO vR vT vD (.slice (some ⟨gC, 0, none⟩) C.length capC) G data told (Ret.doneAt C k x) := by
  have hC : C[k]? = some (C[k].1, C[k].2) := by rw [List.getElem?_eq_getElem hk]
  have h1 := RInv.calls_set (r' := { C[k].1 with done := true }) h hC (j := 5) (by decide) (u := .bool true) rfl rfl
  have hC2 : (C.set k ({ C[k].1 with done := true }, C[k].2))[k]? = some ({ C[k].1 with done := true }, C[k].2) := List.getElem?_set_self hk
  rw [show (Value.slice (some ⟨gC, 0, none⟩) C.length capC) = .slice (some ⟨gC, 0, none⟩) (C.set k ({ C[k].1 with done := true }, C[k].2)).length capC by rw [List.length_set]] at h1
  have h2 := RInv.calls_set (r' := { C[k].1 with done := true, value := x }) h1 hC2 (j := 6) (by decide) (u := .int .i64 x) rfl rfl
  rw [List.length_set] at h2
  unfold Ret.doneAt
  rw [hC]
  exact h2

theorem second_ptr {own : Nat → Tag} {w1 w : World} {bO b b2 gR cR : Nat} {vT vD vC v v2 : Value} {f g : Fr} {G : List (Fr × Nat × Value)} {data told : List Int} {C : List (Rec × Value)} (h : RInv own w1 w bO (.slice (some ⟨gR, 0, none⟩) (((g, b2, v2) :: G).length + 1) cR) vT vD vC ((f, b, v) :: (g, b2, v2) :: G) data told C) : w.cell? ⟨gR, G.length, none⟩ = some (.pointer (some ⟨b2, 0, none⟩)) := by
  have hr := h.row
  simp only [List.length_cons] at hr
  refine hr.cell _ ?_
  rw [ptrs, ptrs, List.getElem?_append_left (by simp [ptrs_length]), List.getElem?_append_right (by rw [ptrs_length]; omega), ptrs_length, Nat.sub_self]
  rfl

theorem ret_none {A : Array Value} {fuel : Int} {bM bR bO b bp bi : Nat} {vR v22 v23 vl v25 v28 v vT vD vC : Value} {w w1 W : World} {own : Nat → Tag} {G : List (Fr × Nat × Value)} {f : Fr} {data told l : List Int} {C : List (Rec × Value)} {K0 K2 : Act → World → Prop} {R0 : Ending → World → Prop} {rm : List Fr} {ao : Option Addr} {len cap dlen : Nat} {P : Nat → PartD} {a b_ c_ : Int} (M : Met w w1 W own A fuel bM bR bO b bp bi vR v22 v23 vl v25 v28 vT vD vC v f G data told C l ao len cap dlen P 13 a b_ c_) (N : Ahead w w1 fuel bM bR bO K0 R0 (Mach.act wdoT P len ⟨rm, data, told, C.map Prod.fst⟩ f (G.map Prod.fst) 13 a b_ c_ l)) (hno : f.noted = none) :
    Code.wp Tryd.prog (RInv.behind 13 (RInv.inside (RInv.behind 1 (((Tryd.f15.body.map RInv.loops).getD []).getD 1 .skip)))) (Exit.inBlock 3 (Exit.then K0 (Exit.inBlock 2 (Exit.then K2 (bodyPost Tryd.prog Tryd.f15 R0))))) ⟨A, []⟩ W := by
  obtain ⟨_, ⟨a0, a1⟩, ⟨b0, b1⟩, ⟨c0, c1⟩⟩ := fault_zero M.fault
  obtain ⟨x, rfl⟩ := List.length_eq_one_iff.1 (by rw [M.many]; simp [needs] : l.length = 1)
  obtain ⟨gl, cl_, rfl, ht, hcl, hx⟩ := one M.lies
  rw [show Mach.act wdoT P len ⟨rm, data, told, C.map Prod.fst⟩ f (G.map Prod.fst) 13 a b_ c_ [x] = ActE.back ⟨rm, data, told, C.map Prod.fst⟩ f (G.map Prod.fst) x by
      unfold Mach.act
      rw [if_neg (by decide), if_neg (by decide), if_neg (by decide), if_neg (by decide), if_neg (by decide), if_neg (by decide), if_neg (by decide), if_neg (by decide), if_neg (by decide), if_neg (by decide), if_neg (by decide), if_neg (by decide), if_pos rfl]
      cases G <;> rfl] at N
  obtain ⟨gR, cR, e, htR, hcR, _⟩ := M.inv.row.form (by simp)
  simp only [List.length_cons] at e hcR
  subst e
  refine piece 2 ?_
  have hb11 : W.cell? ⟨b, 11, none⟩ = some (.int .i64 (-1)) := M.inv.rooms.1.1.cell 11 (by have := M.inv.rooms.1.2.2; simp [frCells, ints, this, hno, note])
  rcases G with _ | ⟨⟨g, b2, v2⟩, G⟩
  · exact RArmD.ret_last (rm := rm) (vR := vT) (f := f) (v := v) (v19 := v25) (v20 := v25) (v21 := v25) (v24 := v25) M.sl M.bi hx hcl hb11 hcR (ne_of_tag ht M.inv.out.tag (by simp)) M.inv M.begun rfl (N.ends _ _ _ (by simp [ActE.back, hno, ends]))
  · have e : ActE.back ⟨rm, data, told, C.map Prod.fst⟩ f (((g, b2, v2) :: G).map Prod.fst) x = puts ⟨rm, data, told, C.map Prod.fst⟩ g (G.map Prod.fst) [x] := by simp [ActE.back, hno]
    rw [e] at N
    have hd := M.depth
    simp only [List.length_cons] at hd hcR
    refine RArmD.ret_more (m := G.length) (b2 := b2) (vR := vT) (w := w) (w1 := w1) (vT := vT) (vD := vD) (vC := vC) (G := G) (f := f) (v := v) (data := data) (told := told) (C := C) (r := (0, 0, ⟨rm, data, told, C.map Prod.fst⟩)) (rm := rm) (v19 := v25) (v20 := v25) (v21 := v25) (v24 := v25) M.sl M.bi hx hcl hb11 (by omega) hcR (second_ptr M.inv) fun A2 W2 hs2 e0 e1 e2 e3 => ?_
    exact put_back N hs2 (M.inv.pop.moves (n := 0) (m := 9) (new_moves e0 e1 e2 e3 (9, 9))) (M.rest _ (List.mem_cons_self ..)) M.begun (by simp) (by simp) (new_src e3)

theorem ret_some {A : Array Value} {fuel : Int} {bM bR bO b bp bi : Nat} {vR v22 v23 vl v25 v28 v vT vD vC : Value} {w w1 W : World} {own : Nat → Tag} {G : List (Fr × Nat × Value)} {f : Fr} {data told l : List Int} {C : List (Rec × Value)} {K0 K2 : Act → World → Prop} {R0 : Ending → World → Prop} {rm : List Fr} {ao : Option Addr} {len cap dlen : Nat} {P : Nat → PartD} {a b_ c_ : Int} (M : Met w w1 W own A fuel bM bR bO b bp bi vR v22 v23 vl v25 v28 vT vD vC v f G data told C l ao len cap dlen P 13 a b_ c_) (N : Ahead w w1 fuel bM bR bO K0 R0 (Mach.act wdoT P len ⟨rm, data, told, C.map Prod.fst⟩ f (G.map Prod.fst) 13 a b_ c_ l)) {k : Nat} (hno : f.noted = some k) :
    Code.wp Tryd.prog (RInv.behind 13 (RInv.inside (RInv.behind 1 (((Tryd.f15.body.map RInv.loops).getD []).getD 1 .skip)))) (Exit.inBlock 3 (Exit.then K0 (Exit.inBlock 2 (Exit.then K2 (bodyPost Tryd.prog Tryd.f15 R0))))) ⟨A, []⟩ W := by
  obtain ⟨_, ⟨a0, a1⟩, ⟨b0, b1⟩, ⟨c0, c1⟩⟩ := fault_zero M.fault
  obtain ⟨x, rfl⟩ := List.length_eq_one_iff.1 (by rw [M.many]; simp [needs] : l.length = 1)
  obtain ⟨gl, cl_, rfl, ht, hcl, hx⟩ := one M.lies
  rw [show Mach.act wdoT P len ⟨rm, data, told, C.map Prod.fst⟩ f (G.map Prod.fst) 13 a b_ c_ [x] = ActE.back ⟨rm, data, told, C.map Prod.fst⟩ f (G.map Prod.fst) x by
      unfold Mach.act
      rw [if_neg (by decide), if_neg (by decide), if_neg (by decide), if_neg (by decide), if_neg (by decide), if_neg (by decide), if_neg (by decide), if_neg (by decide), if_neg (by decide), if_neg (by decide), if_neg (by decide), if_neg (by decide), if_pos rfl]
      cases G <;> rfl] at N
  obtain ⟨gR, cR, e, htR, hcR, _⟩ := M.inv.row.form (by simp)
  simp only [List.length_cons] at e hcR
  subst e
  refine piece 2 ?_
  have hb11 : W.cell? ⟨b, 11, none⟩ = some (.int .i64 k) := M.inv.rooms.1.1.cell 11 (by have := M.inv.rooms.1.2.2; simp [frCells, ints, this, hno, note])
  have hk := M.noted k hno
  obtain ⟨gC, cC, rfl, htC, hcC, _⟩ := M.inv.calls.form (by omega)
  have hC : C[k]? = some (C[k].1, C[k].2) := by rw [List.getElem?_eq_getElem hk]
  have hy5 := M.inv.calls.cell (k * 7 + 5) (u := .bool C[k].1.done) (by rw [flatC_at (by decide) hC]; rfl)
  have hy6 := M.inv.calls.cell (k * 7 + 6) (u := .int .i64 C[k].1.value) (by rw [flatC_at (by decide) hC]; rfl)
  have hset := rdone M.inv hk x
  have hm := Ret.doneAt_map (C := C) k x
  have es : ((W.setCell ⟨gC, k * 7 + 5, none⟩ (.bool true)).setCell ⟨gC, k * 7 + 6, none⟩ (.int .i64 x)).heap.size = W.heap.size := by simp [World.setCell]
  have n1 := ne_of_tag htC M.inv.out.tag (by simp)
  have n2 := ne_of_tag htC M.inv.rooms.1.1.tag (by simp)
  have n3 := ne_of_tag htC ht (by simp)
  have n4 := ne_of_tag htC htR (by simp)
  rcases G with _ | ⟨⟨g, b2, v2⟩, G⟩
  · exact RArmE.retN_last (vR := vT) (f := f) (v := v) (v19 := v25) (v20 := v25) (v21 := v25) (v24 := v25) (rm := rm) (r := (1, x, ⟨rm, data, told, (Ret.doneAt C k x).map Prod.fst⟩)) M.sl M.bi hx hcl (M.inv.out.cell 4 rfl) hk M.calls hcC hy5 (M.inv.calls.frozen _) hy6 (M.inv.calls.frozen _) hb11 n1 n2 n3 n4 hcR (ne_of_tag ht M.inv.out.tag (by simp)) M.inv hset M.begun rfl (N.ends _ _ _ (by simp [ActE.back, hno, ends, hm]))
  · have e : ActE.back ⟨rm, data, told, C.map Prod.fst⟩ f (((g, b2, v2) :: G).map Prod.fst) x = puts ⟨rm, data, told, (Ret.doneAt C k x).map Prod.fst⟩ g (G.map Prod.fst) [x] := by simp [ActE.back, hno, hm]
    rw [e] at N
    have hd := M.depth
    simp only [List.length_cons] at hd hcR
    refine RArmD.retN_more (m := G.length) (b2 := b2) (vR := vT) (w := w) (w1 := w1) (vT := vT) (vD := vD) (vC := vT) (G := G) (f := f) (v := v) (data := data) (told := told) (C := C) (r := (0, 0, ⟨rm, data, told, C.map Prod.fst⟩)) (rm := rm) (v19 := v25) (v20 := v25) (v21 := v25) (v24 := v25) M.sl M.bi hx hcl (M.inv.out.cell 4 rfl) hk M.calls hcC hy5 (M.inv.calls.frozen _) hy6 (M.inv.calls.frozen _) hb11 n1 n2 n3 n4 (by omega) hcR (second_ptr M.inv) fun A2 W2 hs2 e0 e1 e2 e3 => ?_
    have src := new_src (w := (W.setCell ⟨gC, k * 7 + 5, none⟩ (.bool true)).setCell ⟨gC, k * 7 + 6, none⟩ (.int .i64 x)) (back := [x]) e3
    rw [es] at src
    exact put_back N hs2 (hset.pop.moves (n := 0) (m := 9) (new_moves (w := (W.setCell ⟨gC, k * 7 + 5, none⟩ (.bool true)).setCell ⟨gC, k * 7 + 6, none⟩ (.int .i64 x)) e0 e1 e2 e3 (9, 9))) (M.rest _ (List.mem_cons_self ..)) M.begun (by simp) (by simp) src
end Go.Proofs.YtmbbkabecipkaacDoor.RSwC
