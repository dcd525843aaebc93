/-
  RunOf, A ROUND: what an instruction does: it comes back.
  Conditions: each theorem's own hypotheses.
-/
import Derived.Test.YtmbbkabecipkaacDoorWhole25
namespace Go.Proofs.YtmbbkabecipkaacDoor.RArmD
open Go.RowKit Tab Go.Proofs.YtmbbkabecipkaacDoor.Check Lists Go.Proofs.YtmbbkabecipkaacDoor.Read Img Mach Own Go.Proofs.YtmbbkabecipkaacDoor.Inv RunBad RunNot RInv RSlot REnds Take MRun RPart RTake RFinish
set_option linter.unusedVariables false

set_option maxRecDepth 1000000 in
set_option maxHeartbeats 4000000 in
/-- Ret, of a room that was not noted, with rooms behind it -/
theorem ret_more {A : Array Value} {fuel : Int} {bM bR bO : Nat} {vR v19 v20 v21 v22 v23 v24 v25 v28 : Value} {w w1 wr : World} {own : Nat → Tag} {vT vD vC : Value} {G : List (Fr × Nat × Value)} {f : Fr} {b : Nat} {v : Value} {data told : List Int} {C : List (Rec × Value)} {R : Act → World → Prop} {K0 K2 : Act → World → Prop} {R0 : Ending → World → Prop} {r : Int × Int × St} {rm : List Fr} {bp bi gl cl_ : Nat} {gR cR m b2 : Nat} {a_ b_ c_ : Int} (hs : Sl A fuel bM bR bO (.slice (some ⟨gR, 0, none⟩) (m + 2) cR) (.pointer (some ⟨b, 0, none⟩)) (.pointer (some ⟨bp, 0, none⟩)) (.pointer (some ⟨bi, 0, none⟩)) v22 v23 (.slice (some ⟨gl, 0, none⟩) 1 cl_) v25 v28) (hbi : Block own wr bi #[.int .i64 13, .int .i64 a_, .int .i64 b_, .int .i64 c_] 27 (12, 0)) {x : Int} (hx : wr.cell? ⟨gl, 0, none⟩ = some (.int .i64 x)) (hcl : 1 ≤ cl_) (hb11 : wr.cell? ⟨b, 11, none⟩ = some (.int .i64 (-1))) (hm : m + 2 ≤ 20) (hcR : m + 2 ≤ cR) (hp2 : wr.cell? ⟨gR, m, none⟩ = some (.pointer (some ⟨b2, 0, none⟩)))
    (hR : ∀ A' W, Sl A' fuel bM bR bO (.slice (some ⟨gR, 0, none⟩) (m + 1) cR) (.pointer (some ⟨b2, 0, none⟩)) (.pointer (some ⟨bp, 0, none⟩)) (.pointer (some ⟨bi, 0, none⟩)) v22 v23 (.slice (some ⟨gl, 0, none⟩) 1 cl_) (.slice (some ⟨wr.heap.size, 0, none⟩) 1 1) v28 → W.os = wr.os → W.tape = wr.tape → W.output = wr.output → W.heap = (wr.alloc (.cells #[.int .i64 x] 3)).heap → R ⟨A', []⟩ W) :
    RInv.upto Tryd.prog 2 (RInv.behind 13 (RInv.inside (RInv.behind 1 (((Tryd.f15.body.map RInv.loops).getD []).getD 1 .skip)))) R (Exit.inBlock 3 (Exit.then K0 (Exit.inBlock 2 (Exit.then K2 (bodyPost Tryd.prog Tryd.f15 R0))))) ⟨A, []⟩ wr := by
  obtain ⟨u, rfl⟩ := fold hs
  have i0 := hbi.cell 0 (v := .int .i64 13) rfl
  have i1 := hbi.cell 1 (v := .int .i64 a_) rfl
  have hmI : (m : Int) + 2 ≤ 20 := by omega
  have hcI : (m : Int) + 2 ≤ cR := by omega
  have HR : Hid _ := hR
  clear hs hbi hR
  conv => arg 3; whnf
  refine upto_seq ?_
  go_wp2
  refine upto_seq ?_
  go_wp2
  exact HR.out _ _ ⟨rfl, rfl, rfl, rfl, rfl, rfl, rfl, rfl, rfl, rfl, rfl, rfl, rfl, rfl, rfl⟩ rfl rfl rfl rfl

set_option maxRecDepth 1000000 in
set_option maxHeartbeats 4000000 in
/-- Ret, of the last room, which was not noted -/
theorem ret_last {A : Array Value} {fuel : Int} {bM bR bO : Nat} {vR v19 v20 v21 v22 v23 v24 v25 v28 : Value} {w w1 wr : World} {own : Nat → Tag} {vT vD vC : Value} {G : List (Fr × Nat × Value)} {f : Fr} {b : Nat} {v : Value} {data told : List Int} {C : List (Rec × Value)} {R : Act → World → Prop} {K0 K2 : Act → World → Prop} {R0 : Ending → World → Prop} {r : Int × Int × St} {rm : List Fr} {bp bi gl cl_ : Nat} {gR cR : Nat} {vR' : Value} {a_ b_ c_ : Int} (hs : Sl A fuel bM bR bO (.slice (some ⟨gR, 0, none⟩) 1 cR) (.pointer (some ⟨b, 0, none⟩)) (.pointer (some ⟨bp, 0, none⟩)) (.pointer (some ⟨bi, 0, none⟩)) v22 v23 (.slice (some ⟨gl, 0, none⟩) 1 cl_) v25 v28) (hbi : Block own wr bi #[.int .i64 13, .int .i64 a_, .int .i64 b_, .int .i64 c_] 27 (12, 0)) {x : Int} (hx : wr.cell? ⟨gl, 0, none⟩ = some (.int .i64 x)) (hcl : 1 ≤ cl_) (hb11 : wr.cell? ⟨b, 11, none⟩ = some (.int .i64 (-1))) (hcR : 1 ≤ cR) (hgl : gl ≠ bO) (h : RInv own w1 wr bO vR' vT vD vC G data told C) (hT : Begun w w1 bR) (hr : (1, x, (⟨rm, data, told, C.map Prod.fst⟩ : St)) = r) (hR0 : R0 = Gave w r) :
    RInv.upto Tryd.prog 2 (RInv.behind 13 (RInv.inside (RInv.behind 1 (((Tryd.f15.body.map RInv.loops).getD []).getD 1 .skip)))) R (Exit.inBlock 3 (Exit.then K0 (Exit.inBlock 2 (Exit.then K2 (bodyPost Tryd.prog Tryd.f15 R0))))) ⟨A, []⟩ wr := by
  obtain ⟨u, rfl⟩ := fold hs
  have i0 := hbi.cell 0 (v := .int .i64 13) rfl
  have i1 := hbi.cell 1 (v := .int .i64 a_) rfl
  subst hR0
  obtain ⟨a1, x1, rfl⟩ := owned_form h.told
  obtain ⟨a2, x2, rfl⟩ := owned_form h.dat
  obtain ⟨a3, x3, e3⟩ := owned_form h.calls
  subst e3
  have hz : ((wr.setCell ⟨bO, 0, none⟩ (.int .i64 1)).setCell ⟨bO, 1, none⟩ (.int .i64 x)).heap[bR]? = some (.cells RunBad.zero 41 (0, 0)) := by
    rw [Below.heap_setCell _ _ _ _ (fun e => apart h hT e)]
    exact zero_set h hT 0 (.int .i64 1)
  have one := ones (a := 1) (b := x) (rfl : Value.slice a1 told.length x1 = _) (rfl : Value.slice a2 data.length x2 = _) (rfl : Value.slice a3 C.length x3 = _)
  have fin : ∀ W : World, W.os = wr.os → W.tape = wr.tape → W.output = wr.output → W.heap = ((wr.setCell ⟨bO, 0, none⟩ (.int .i64 1)).setCell ⟨bO, 1, none⟩ (.int .i64 x)).heap → Gave w r (.returned (.tuple #[.agg #[.int .i64 1, .int .i64 x, .slice a1 told.length x1, .slice a2 data.length x2, .slice a3 C.length x3], .int .i64 0])) (W.setRow bR #[.int .i64 1, .int .i64 x, .slice a1 told.length x1, .slice a2 data.length x2, .slice a3 C.length x3]) := fun W e0 e1 e2 e3 =>
    REnds.gave h hT (((Moves.setCell own wr bO 0 (.int .i64 1) h.out.tag).trans (Moves.setCell own _ bO 1 (.int .i64 x) h.out.tag)).trans (same_moves (w := ((wr.setCell ⟨bO, 0, none⟩ (.int .i64 1)).setCell ⟨bO, 1, none⟩ (.int .i64 x))) e0 e1 e2 e3 _)) _ hr
  have q0 := h.out.cell 0 (v := .int .i64 0) rfl
  have q1 := h.out.cell 1 (v := .int .i64 0) rfl
  have q2 := h.out.cell 2 (v := .slice a1 told.length x1) rfl
  have q3 := h.out.cell 3 (v := .slice a2 data.length x2) rfl
  have q4 := h.out.cell 4 (v := .slice a3 C.length x3) rfl
  have z0 := h.out.frozen 0
  have z1 := h.out.frozen 1
  obtain ⟨nT, eT⟩ : ∃ n, n = told.length := ⟨_, rfl⟩
  obtain ⟨nD, eD⟩ : ∃ n, n = data.length := ⟨_, rfl⟩
  obtain ⟨nC, eC⟩ : ∃ n, n = C.length := ⟨_, rfl⟩
  rw [← eT] at q2 one fin
  rw [← eD] at q3 one fin
  rw [← eC] at q4 one fin
  have hz' : ∀ W : World, W.heap = ((wr.setCell ⟨bO, 0, none⟩ (.int .i64 1)).setCell ⟨bO, 1, none⟩ (.int .i64 x)).heap → W.heap[bR]? = some (.cells zero 41 (0, 0)) := fun W e3 => by rw [e3]; exact hz
  have HZ : Hid _ := hz'
  have ONE : Hid _ := one
  have FEND : Hid _ := fin
  have hcI : (1 : Int) ≤ cR := by omega
  have hgl' := hgl.symm
  clear hs hbi h hz hz' one fin hT hr eT eD eC
  conv => arg 3; whnf
  refine upto_seq ?_
  go_wp2
  refine upto_seq ?_
  go_wp2_with ((with_reducible show wpList _ _ _ ({ dst := none, op := Op.store 41 _ _, type := _, pos := _, after := _, guard := _ } :: _) _ _); refine wpList_store_row rfl 41 _ _ rfl bR #[.int .i64 1, .int .i64 x, .slice a1 nT x1, .slice a2 nD x2, .slice a3 nC x3] rfl rfl 41 zero (HZ.out _ rfl) size41 rfl ONE.out ?_)
  · refine bodyPost_ret (results5 _ _ bR #[.int .i64 1, .int .i64 x, .slice a1 nT x1, .slice a2 nD x2, .slice a3 nC x3] 41 (0, 0) _ rfl rfl (setRow_heap _ _ _ _ _ _ (HZ.out _ rfl)) rfl) rfl ?_
    exact FEND.out _ rfl rfl rfl rfl

set_option maxRecDepth 1000000 in
set_option maxHeartbeats 4000000 in
/-- Ret, of a room that was noted, with rooms behind it -/
theorem retN_more {A : Array Value} {fuel : Int} {bM bR bO : Nat} {vR v19 v20 v21 v22 v23 v24 v25 v28 : Value} {w w1 wr : World} {own : Nat → Tag} {vT vD vC : Value} {G : List (Fr × Nat × Value)} {f : Fr} {b : Nat} {v : Value} {data told : List Int} {C : List (Rec × Value)} {R : Act → World → Prop} {K0 K2 : Act → World → Prop} {R0 : Ending → World → Prop} {r : Int × Int × St} {rm : List Fr} {bp bi gl cl_ : Nat} {gR cR m b2 : Nat} {a_ b_ c_ : Int} (hs : Sl A fuel bM bR bO (.slice (some ⟨gR, 0, none⟩) (m + 2) cR) (.pointer (some ⟨b, 0, none⟩)) (.pointer (some ⟨bp, 0, none⟩)) (.pointer (some ⟨bi, 0, none⟩)) v22 v23 (.slice (some ⟨gl, 0, none⟩) 1 cl_) v25 v28) (hbi : Block own wr bi #[.int .i64 13, .int .i64 a_, .int .i64 b_, .int .i64 c_] 27 (12, 0)) {x : Int} (hx : wr.cell? ⟨gl, 0, none⟩ = some (.int .i64 x)) (hcl : 1 ≤ cl_) {gC nC_ cC k : Nat} (hO4 : wr.cell? ⟨bO, 4, none⟩ = some (.slice (some ⟨gC, 0, none⟩) nC_ cC)) (hk : k < nC_) (hnC : nC_ ≤ 100) (hcC : nC_ ≤ cC) {y5 y6 : Value} (hy5 : wr.cell? ⟨gC, k * 7 + 5, none⟩ = some y5) (hz5 : wr.frozen? ⟨gC, k * 7 + 5, none⟩ = false) (hy6 : wr.cell? ⟨gC, k * 7 + 6, none⟩ = some y6) (hz6 : wr.frozen? ⟨gC, k * 7 + 6, none⟩ = false) (hb11 : wr.cell? ⟨b, 11, none⟩ = some (.int .i64 k)) (n1 : gC ≠ bO) (n2 : gC ≠ b) (n3 : gC ≠ gl) (n4 : gC ≠ gR) (hm : m + 2 ≤ 20) (hcR : m + 2 ≤ cR) (hp2 : wr.cell? ⟨gR, m, none⟩ = some (.pointer (some ⟨b2, 0, none⟩)))
    (hR : ∀ A' W, Sl A' fuel bM bR bO (.slice (some ⟨gR, 0, none⟩) (m + 1) cR) (.pointer (some ⟨b2, 0, none⟩)) (.pointer (some ⟨bp, 0, none⟩)) (.pointer (some ⟨bi, 0, none⟩)) v22 v23 (.slice (some ⟨gl, 0, none⟩) 1 cl_) (.slice (some ⟨wr.heap.size, 0, none⟩) 1 1) v28 → W.os = wr.os → W.tape = wr.tape → W.output = wr.output → W.heap = (((wr.setCell ⟨gC, k * 7 + 5, none⟩ (.bool true)).setCell ⟨gC, k * 7 + 6, none⟩ (.int .i64 x)).alloc (.cells #[.int .i64 x] 3)).heap → R ⟨A', []⟩ W) :
    RInv.upto Tryd.prog 2 (RInv.behind 13 (RInv.inside (RInv.behind 1 (((Tryd.f15.body.map RInv.loops).getD []).getD 1 .skip)))) R (Exit.inBlock 3 (Exit.then K0 (Exit.inBlock 2 (Exit.then K2 (bodyPost Tryd.prog Tryd.f15 R0))))) ⟨A, []⟩ wr := by
  obtain ⟨u, rfl⟩ := fold hs
  have i0 := hbi.cell 0 (v := .int .i64 13) rfl
  have i1 := hbi.cell 1 (v := .int .i64 a_) rfl
  have hmI : (m : Int) + 2 ≤ 20 := by omega
  have hcI : (m : Int) + 2 ≤ cR := by omega
  have n1' := n1.symm
  have n2' := n2.symm
  have n3' := n3.symm
  have n4' := n4.symm
  have hkI : (k : Int) < nC_ := by omega
  have hnI : (nC_ : Int) ≤ 100 := by omega
  have HR : Hid _ := hR
  clear hs hbi hR
  conv => arg 3; whnf
  refine upto_seq ?_
  go_wp2
  refine upto_seq ?_
  go_wp2
  go_region_held3 (fun w' => w'.cell? ⟨bO, 4, none⟩ = some (.slice (some ⟨gC, 0, none⟩) nC_ cC) ∧ w'.cell? ⟨b, 11, none⟩ = some (.int .i64 k) ∧ w'.cell? ⟨gl, 0, none⟩ = some (.int .i64 x)) (go_keep) (fail)
  all_goals
    go_wp2
    go_region_held3 (fun w' => w'.cell? ⟨bO, 4, none⟩ = some (.slice (some ⟨gC, 0, none⟩) nC_ cC) ∧ w'.cell? ⟨b, 11, none⟩ = some (.int .i64 k) ∧ w'.cell? ⟨gl, 0, none⟩ = some (.int .i64 x)) (go_keep) (fail)
    all_goals
      go_wp2
      exact HR.out _ _ ⟨rfl, rfl, rfl, rfl, rfl, rfl, rfl, rfl, rfl, rfl, rfl, rfl, rfl, rfl, rfl⟩ rfl rfl rfl rfl
end Go.Proofs.YtmbbkabecipkaacDoor.RArmD
