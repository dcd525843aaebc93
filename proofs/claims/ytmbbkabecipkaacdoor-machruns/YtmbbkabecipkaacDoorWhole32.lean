/-
  RunOf, A ROUND: what an instruction does: words of others and of its own, operations, a trap.
  Conditions: each theorem's own hypotheses.
-/
import Derived.Test.YtmbbkabecipkaacDoorWhole25
import Derived.Test.YtmbbkabecipkaacDoorWhole31
namespace Go.Proofs.YtmbbkabecipkaacDoor.RArmB
open Go.RowKit Tab Go.Proofs.YtmbbkabecipkaacDoor.Check Lists Go.Proofs.YtmbbkabecipkaacDoor.Read Img Mach Own Go.Proofs.YtmbbkabecipkaacDoor.Inv RunBad RunNot RInv RSlot REnds Take MRun RPart RTake RFinish
set_option linter.unusedVariables false

set_option maxRecDepth 1000000 in
set_option maxHeartbeats 4000000 in
/-- Load, of a word that is not its own -/
theorem load_off {A : Array Value} {fuel : Int} {bM bR bO : Nat} {vR v19 v20 v21 v22 v23 v24 v25 v28 : Value} {w w1 wr : World} {own : Nat → Tag} {vT vD vC : Value} {G : List (Fr × Nat × Value)} {f : Fr} {b : Nat} {v : Value} {data told : List Int} {C : List (Rec × Value)} {R : Act → World → Prop} {K0 K2 : Act → World → Prop} {R0 : Ending → World → Prop} {r : Int × Int × St} {rm : List Fr} {bp bi gl cl_ : Nat} {a_ b_ c_ : Int} (hs : Sl A fuel bM bR bO vR (.pointer (some ⟨b, 0, none⟩)) (.pointer (some ⟨bp, 0, none⟩)) (.pointer (some ⟨bi, 0, none⟩)) v22 v23 (.slice (some ⟨gl, 0, none⟩) 1 cl_) v25 v28) (hbi : Block own wr bi #[.int .i64 6, .int .i64 a_, .int .i64 b_, .int .i64 c_] 27 (12, 0)) {lo hi : Int} {pc_ pe_ : Value} (hbp : Block own wr bp #[pc_, pe_, .int .i64 lo, .int .i64 hi] 55 (11, 0)) {x : Int} (hx : wr.cell? ⟨gl, 0, none⟩ = some (.int .i64 x)) (hcl : 1 ≤ cl_) (hlb : 0 ≤ lo) (hhb : hi ≤ 250) (hh0 : 0 ≤ hi) (ho : ¬ (lo ≤ x ∧ x < hi)) (h : RInv own w1 wr bO vR vT vD vC G data told C) (hT : Begun w w1 bR) (hr : (4, 0, (⟨rm, data, told, C.map Prod.fst⟩ : St)) = r) (hR0 : R0 = Gave w r) :
    RInv.upto Tryd.prog 2 (RInv.behind 13 (RInv.inside (RInv.behind 1 (((Tryd.f15.body.map RInv.loops).getD []).getD 1 .skip)))) R (Exit.inBlock 3 (Exit.then K0 (Exit.inBlock 2 (Exit.then K2 (bodyPost Tryd.prog Tryd.f15 R0))))) ⟨A, []⟩ wr := by
  obtain ⟨u, rfl⟩ := fold hs
  have i0 := hbi.cell 0 (v := .int .i64 6) rfl
  have i1 := hbi.cell 1 (v := .int .i64 a_) rfl
  have p2 := hbp.cell 2 (v := .int .i64 lo) rfl
  have p3 := hbp.cell 3 (v := .int .i64 hi) rfl
  subst hR0
  obtain ⟨a1, x1, rfl⟩ := owned_form h.told
  obtain ⟨a2, x2, rfl⟩ := owned_form h.dat
  obtain ⟨a3, x3, rfl⟩ := owned_form h.calls
  have hz := zero_set h hT 0 (.int .i64 4)
  have q0 := h.out.cell 0 (v := .int .i64 0) rfl
  have q1 := h.out.cell 1 (v := .int .i64 0) rfl
  have q2 := h.out.cell 2 (v := .slice a1 told.length x1) rfl
  have q3 := h.out.cell 3 (v := .slice a2 data.length x2) rfl
  have q4 := h.out.cell 4 (v := .slice a3 C.length x3) rfl
  have z0 := h.out.frozen 0
  have one := ones (a := 4) (b := 0) (rfl : Value.slice a1 told.length x1 = _) (rfl : Value.slice a2 data.length x2 = _) (rfl : Value.slice a3 C.length x3 = _)
  have fin : ∀ W : World, W.os = wr.os → W.tape = wr.tape → W.output = wr.output → W.heap = (wr.setCell ⟨bO, 0, none⟩ (.int .i64 4)).heap → Gave w r (.returned (.tuple #[.agg #[.int .i64 4, .int .i64 0, .slice a1 told.length x1, .slice a2 data.length x2, .slice a3 C.length x3], .int .i64 0])) (W.setRow bR #[.int .i64 4, .int .i64 0, .slice a1 told.length x1, .slice a2 data.length x2, .slice a3 C.length x3]) := fun W e0 e1 e2 e3 =>
    REnds.gave h hT ((Moves.setCell own wr bO 0 (.int .i64 4) h.out.tag).trans (same_moves (w := wr.setCell ⟨bO, 0, none⟩ (.int .i64 4)) e0 e1 e2 e3 _)) _ hr
  obtain ⟨nT, eT⟩ : ∃ n, n = told.length := ⟨_, rfl⟩
  obtain ⟨nD, eD⟩ : ∃ n, n = data.length := ⟨_, rfl⟩
  obtain ⟨nC, eC⟩ : ∃ n, n = C.length := ⟨_, rfl⟩
  rw [← eT] at q2 one fin
  rw [← eD] at q3 one fin
  rw [← eC] at q4 one fin
  have hz' : ∀ W : World, W.heap = (wr.setCell ⟨bO, 0, none⟩ (.int .i64 4)).heap → W.heap[bR]? = some (.cells zero 41 (0, 0)) := fun W e3 => by rw [e3]; exact hz
  have HZ : Hid _ := hz'
  have ONE : Hid _ := one
  have FEND : Hid _ := fin
  clear hz hz' one fin hT hr eT eD eC
  have hno : ¬ (lo ≤ x ∧ x ≤ hi - 1) := by omega
  have HNN : Hid (¬ (lo ≤ x ∧ x ≤ hi - 1)) := hno
  have HWR : Hid (IntKind.i64.wrap (hi - 1) = hi - 1) := (by rw [IntKind.wrap_i64]; omega : IntKind.i64.wrap (hi - 1) = hi - 1)
  clear hs hbi hbp h ho hno
  conv => arg 3; whnf
  refine upto_seq ?_
  go_wp2
  refine upto_seq ?_
  go_wp2
  go_region_held3 (fun w' => w'.cell? ⟨gl, 0, none⟩ = some (.int .i64 x) ∧ w'.cell? ⟨bp, 2, none⟩ = some (.int .i64 lo) ∧ w'.cell? ⟨bp, 3, none⟩ = some (.int .i64 hi)) (go_keep) (first | (go_at_call 27; refine (isIn_no _ _ _ _ (by rw [HWR.out]; exact HNN.out)).mono ?_; rintro e w' ⟨rfl, rfl⟩))
  all_goals
    go_wp2_with ((with_reducible show wpList _ _ _ ({ dst := none, op := Op.store 41 _ _, type := _, pos := _, after := _, guard := _ } :: _) _ _); refine wpList_store_row rfl 41 _ _ rfl bR #[.int .i64 4, .int .i64 0, .slice a1 nT x1, .slice a2 nD x2, .slice a3 nC x3] rfl rfl 41 zero (HZ.out _ rfl) size41 rfl ONE.out ?_)
    refine bodyPost_ret (results5 _ _ bR #[.int .i64 4, .int .i64 0, .slice a1 nT x1, .slice a2 nD x2, .slice a3 nC x3] 41 (0, 0) _ rfl rfl (setRow_heap _ _ _ _ _ _ (HZ.out _ rfl)) rfl) rfl ?_
    exact FEND.out _ rfl rfl rfl rfl

set_option maxRecDepth 1000000 in
set_option maxHeartbeats 4000000 in
/-- Store, at a word that is not its own -/
theorem store_off {A : Array Value} {fuel : Int} {bM bR bO : Nat} {vR v19 v20 v21 v22 v23 v24 v25 v28 : Value} {w w1 wr : World} {own : Nat → Tag} {vT vD vC : Value} {G : List (Fr × Nat × Value)} {f : Fr} {b : Nat} {v : Value} {data told : List Int} {C : List (Rec × Value)} {R : Act → World → Prop} {K0 K2 : Act → World → Prop} {R0 : Ending → World → Prop} {r : Int × Int × St} {rm : List Fr} {bp bi gl cl_ : Nat} {a_ b_ c_ : Int} (hs : Sl A fuel bM bR bO vR (.pointer (some ⟨b, 0, none⟩)) (.pointer (some ⟨bp, 0, none⟩)) (.pointer (some ⟨bi, 0, none⟩)) v22 v23 (.slice (some ⟨gl, 0, none⟩) 2 cl_) v25 v28) (hbi : Block own wr bi #[.int .i64 7, .int .i64 a_, .int .i64 b_, .int .i64 c_] 27 (12, 0)) {lo hi : Int} {pc_ pe_ : Value} (hbp : Block own wr bp #[pc_, pe_, .int .i64 lo, .int .i64 hi] 55 (11, 0)) {x : Int} (hx : wr.cell? ⟨gl, 0, none⟩ = some (.int .i64 x)) (hcl : 2 ≤ cl_) (hlb : 0 ≤ lo) (hhb : hi ≤ 250) (hh0 : 0 ≤ hi) (ho : ¬ (lo ≤ x ∧ x < hi)) (h : RInv own w1 wr bO vR vT vD vC G data told C) (hT : Begun w w1 bR) (hr : (4, 0, (⟨rm, data, told, C.map Prod.fst⟩ : St)) = r) (hR0 : R0 = Gave w r) :
    RInv.upto Tryd.prog 2 (RInv.behind 13 (RInv.inside (RInv.behind 1 (((Tryd.f15.body.map RInv.loops).getD []).getD 1 .skip)))) R (Exit.inBlock 3 (Exit.then K0 (Exit.inBlock 2 (Exit.then K2 (bodyPost Tryd.prog Tryd.f15 R0))))) ⟨A, []⟩ wr := by
  obtain ⟨u, rfl⟩ := fold hs
  have i0 := hbi.cell 0 (v := .int .i64 7) rfl
  have i1 := hbi.cell 1 (v := .int .i64 a_) rfl
  have p2 := hbp.cell 2 (v := .int .i64 lo) rfl
  have p3 := hbp.cell 3 (v := .int .i64 hi) rfl
  subst hR0
  obtain ⟨a1, x1, rfl⟩ := owned_form h.told
  obtain ⟨a2, x2, rfl⟩ := owned_form h.dat
  obtain ⟨a3, x3, rfl⟩ := owned_form h.calls
  have hz := zero_set h hT 0 (.int .i64 4)
  have q0 := h.out.cell 0 (v := .int .i64 0) rfl
  have q1 := h.out.cell 1 (v := .int .i64 0) rfl
  have q2 := h.out.cell 2 (v := .slice a1 told.length x1) rfl
  have q3 := h.out.cell 3 (v := .slice a2 data.length x2) rfl
  have q4 := h.out.cell 4 (v := .slice a3 C.length x3) rfl
  have z0 := h.out.frozen 0
  have one := ones (a := 4) (b := 0) (rfl : Value.slice a1 told.length x1 = _) (rfl : Value.slice a2 data.length x2 = _) (rfl : Value.slice a3 C.length x3 = _)
  have fin : ∀ W : World, W.os = wr.os → W.tape = wr.tape → W.output = wr.output → W.heap = (wr.setCell ⟨bO, 0, none⟩ (.int .i64 4)).heap → Gave w r (.returned (.tuple #[.agg #[.int .i64 4, .int .i64 0, .slice a1 told.length x1, .slice a2 data.length x2, .slice a3 C.length x3], .int .i64 0])) (W.setRow bR #[.int .i64 4, .int .i64 0, .slice a1 told.length x1, .slice a2 data.length x2, .slice a3 C.length x3]) := fun W e0 e1 e2 e3 =>
    REnds.gave h hT ((Moves.setCell own wr bO 0 (.int .i64 4) h.out.tag).trans (same_moves (w := wr.setCell ⟨bO, 0, none⟩ (.int .i64 4)) e0 e1 e2 e3 _)) _ hr
  obtain ⟨nT, eT⟩ : ∃ n, n = told.length := ⟨_, rfl⟩
  obtain ⟨nD, eD⟩ : ∃ n, n = data.length := ⟨_, rfl⟩
  obtain ⟨nC, eC⟩ : ∃ n, n = C.length := ⟨_, rfl⟩
  rw [← eT] at q2 one fin
  rw [← eD] at q3 one fin
  rw [← eC] at q4 one fin
  have hz' : ∀ W : World, W.heap = (wr.setCell ⟨bO, 0, none⟩ (.int .i64 4)).heap → W.heap[bR]? = some (.cells zero 41 (0, 0)) := fun W e3 => by rw [e3]; exact hz
  have HZ : Hid _ := hz'
  have ONE : Hid _ := one
  have FEND : Hid _ := fin
  clear hz hz' one fin hT hr eT eD eC
  have hno : ¬ (lo ≤ x ∧ x ≤ hi - 1) := by omega
  have HNN : Hid (¬ (lo ≤ x ∧ x ≤ hi - 1)) := hno
  have HWR : Hid (IntKind.i64.wrap (hi - 1) = hi - 1) := (by rw [IntKind.wrap_i64]; omega : IntKind.i64.wrap (hi - 1) = hi - 1)
  clear hs hbi hbp h ho hno
  conv => arg 3; whnf
  refine upto_seq ?_
  go_wp2
  refine upto_seq ?_
  go_wp2
  go_region_held3 (fun w' => w'.cell? ⟨gl, 0, none⟩ = some (.int .i64 x) ∧ w'.cell? ⟨bp, 2, none⟩ = some (.int .i64 lo) ∧ w'.cell? ⟨bp, 3, none⟩ = some (.int .i64 hi)) (go_keep) (first | (go_at_call 27; refine (isIn_no _ _ _ _ (by rw [HWR.out]; exact HNN.out)).mono ?_; rintro e w' ⟨rfl, rfl⟩))
  all_goals
    go_wp2_with ((with_reducible show wpList _ _ _ ({ dst := none, op := Op.store 41 _ _, type := _, pos := _, after := _, guard := _ } :: _) _ _); refine wpList_store_row rfl 41 _ _ rfl bR #[.int .i64 4, .int .i64 0, .slice a1 nT x1, .slice a2 nD x2, .slice a3 nC x3] rfl rfl 41 zero (HZ.out _ rfl) size41 rfl ONE.out ?_)
    refine bodyPost_ret (results5 _ _ bR #[.int .i64 4, .int .i64 0, .slice a1 nT x1, .slice a2 nD x2, .slice a3 nC x3] 41 (0, 0) _ rfl rfl (setRow_heap _ _ _ _ _ _ (HZ.out _ rfl)) rfl) rfl ?_
    exact FEND.out _ rfl rfl rfl rfl

set_option maxRecDepth 1000000 in
set_option maxHeartbeats 4000000 in
/-- Load -/
theorem load_on {A : Array Value} {fuel : Int} {bM bR bO : Nat} {vR v19 v20 v21 v22 v23 v24 v25 v28 : Value} {w w1 wr : World} {own : Nat → Tag} {vT vD vC : Value} {G : List (Fr × Nat × Value)} {f : Fr} {b : Nat} {v : Value} {data told : List Int} {C : List (Rec × Value)} {R : Act → World → Prop} {K0 K2 : Act → World → Prop} {R0 : Ending → World → Prop} {r : Int × Int × St} {rm : List Fr} {bp bi gl cl_ : Nat} {a_ b_ c_ : Int} (hs : Sl A fuel bM bR bO vR (.pointer (some ⟨b, 0, none⟩)) (.pointer (some ⟨bp, 0, none⟩)) (.pointer (some ⟨bi, 0, none⟩)) v22 v23 (.slice (some ⟨gl, 0, none⟩) 1 cl_) v25 v28) (hbi : Block own wr bi #[.int .i64 6, .int .i64 a_, .int .i64 b_, .int .i64 c_] 27 (12, 0)) {lo hi : Int} {pc_ pe_ : Value} (hbp : Block own wr bp #[pc_, pe_, .int .i64 lo, .int .i64 hi] 55 (11, 0)) {k : Nat} (hx : wr.cell? ⟨gl, 0, none⟩ = some (.int .i64 k)) (hcl : 1 ≤ cl_) (hlb : 0 ≤ lo) (hhb : hi ≤ 250) (h1 : lo ≤ k) (h2 : (k : Int) < hi) {gD dl cD : Nat} {vT_ vC_ : Value} (hO : Block own wr bO #[.int .i64 0, .int .i64 0, vT_, .slice (some ⟨gD, 0, none⟩) dl cD, vC_] 41 (1, 0)) (hdl : dl ≤ 250) (hkd : k < dl) {y : Int} (hy : wr.cell? ⟨gD, k, none⟩ = some (.int .i64 y))
    (hR : ∀ A' W, Sl A' fuel bM bR bO vR (.pointer (some ⟨b, 0, none⟩)) (.pointer (some ⟨bp, 0, none⟩)) (.pointer (some ⟨bi, 0, none⟩)) v22 v23 (.slice (some ⟨gl, 0, none⟩) 1 cl_) (.slice (some ⟨wr.heap.size, 0, none⟩) 1 1) v28 → W.os = wr.os → W.tape = wr.tape → W.output = wr.output → W.heap = (wr.alloc (.cells #[.int .i64 y] 3)).heap → R ⟨A', []⟩ W) :
    RInv.upto Tryd.prog 2 (RInv.behind 13 (RInv.inside (RInv.behind 1 (((Tryd.f15.body.map RInv.loops).getD []).getD 1 .skip)))) R (Exit.inBlock 3 (Exit.then K0 (Exit.inBlock 2 (Exit.then K2 (bodyPost Tryd.prog Tryd.f15 R0))))) ⟨A, []⟩ wr := by
  obtain ⟨u, rfl⟩ := fold hs
  have i0 := hbi.cell 0 (v := .int .i64 6) rfl
  have i1 := hbi.cell 1 (v := .int .i64 a_) rfl
  have p2 := hbp.cell 2 (v := .int .i64 lo) rfl
  have p3 := hbp.cell 3 (v := .int .i64 hi) rfl
  have o3 := hO.cell 3 (v := .slice (some ⟨gD, 0, none⟩) dl cD) rfl
  have hkI : (k : Int) < dl := by omega
  have hdI : (dl : Int) ≤ 250 := by omega
  have H1 : Hid (lo ≤ (k : Int)) := h1
  have H2 : Hid ((k : Int) ≤ hi - 1) := (by omega : (k : Int) ≤ hi - 1)
  have hh0 : 0 ≤ hi := by omega
  have HWR : Hid (IntKind.i64.wrap (hi - 1) = hi - 1) := (by rw [IntKind.wrap_i64]; omega : IntKind.i64.wrap (hi - 1) = hi - 1)
  have HR : Hid _ := hR
  clear hs hbi hbp hO hR
  conv => arg 3; whnf
  refine upto_seq ?_
  go_wp2
  refine upto_seq ?_
  go_wp2
  go_region_held3 (fun w' => w'.cell? ⟨gl, 0, none⟩ = some (.int .i64 k) ∧ w'.cell? ⟨bp, 2, none⟩ = some (.int .i64 lo) ∧ w'.cell? ⟨bp, 3, none⟩ = some (.int .i64 hi)) (go_keep) (first | (go_at_call 27; refine (isIn_yes _ _ _ _ H1.out (by rw [HWR.out]; exact H2.out)).mono ?_; rintro e w' ⟨rfl, rfl⟩))
  all_goals
    go_wp2
    go_region_held3 (fun w' => w'.cell? ⟨gl, 0, none⟩ = some (.int .i64 k) ∧ w'.cell? ⟨bO, 3, none⟩ = some (.slice (some ⟨gD, 0, none⟩) dl cD) ∧ w'.cell? ⟨gD, k, none⟩ = some (.int .i64 y)) (go_keep) (fail)
    all_goals
      go_wp2
      exact HR.out _ _ ⟨rfl, rfl, rfl, rfl, rfl, rfl, rfl, rfl, rfl, rfl, rfl, rfl, rfl, rfl, rfl⟩ rfl rfl rfl rfl

set_option maxRecDepth 1000000 in
set_option maxHeartbeats 4000000 in
/-- Store -/
theorem store_on {A : Array Value} {fuel : Int} {bM bR bO : Nat} {vR v19 v20 v21 v22 v23 v24 v25 v28 : Value} {w w1 wr : World} {own : Nat → Tag} {vT vD vC : Value} {G : List (Fr × Nat × Value)} {f : Fr} {b : Nat} {v : Value} {data told : List Int} {C : List (Rec × Value)} {R : Act → World → Prop} {K0 K2 : Act → World → Prop} {R0 : Ending → World → Prop} {r : Int × Int × St} {rm : List Fr} {bp bi gl cl_ : Nat} {a_ b_ c_ : Int} (hs : Sl A fuel bM bR bO vR (.pointer (some ⟨b, 0, none⟩)) (.pointer (some ⟨bp, 0, none⟩)) (.pointer (some ⟨bi, 0, none⟩)) v22 v23 (.slice (some ⟨gl, 0, none⟩) 2 cl_) v25 v28) (hbi : Block own wr bi #[.int .i64 7, .int .i64 a_, .int .i64 b_, .int .i64 c_] 27 (12, 0)) {lo hi : Int} {pc_ pe_ : Value} (hbp : Block own wr bp #[pc_, pe_, .int .i64 lo, .int .i64 hi] 55 (11, 0)) {k : Nat} (hx : wr.cell? ⟨gl, 0, none⟩ = some (.int .i64 k)) {y : Int} (hy : wr.cell? ⟨gl, 1, none⟩ = some (.int .i64 y)) (hcl : 2 ≤ cl_) (hlb : 0 ≤ lo) (hhb : hi ≤ 250) (h1 : lo ≤ k) (h2 : (k : Int) < hi) {gD dl cD : Nat} {vT_ vC_ : Value} (hO : Block own wr bO #[.int .i64 0, .int .i64 0, vT_, .slice (some ⟨gD, 0, none⟩) dl cD, vC_] 41 (1, 0)) (hdl : dl ≤ 250) (hkd : k < dl) {z : Value} (hz : wr.cell? ⟨gD, k, none⟩ = some z) (hzf : wr.frozen? ⟨gD, k, none⟩ = false) (hn1 : gD ≠ gl) (hn2 : gD ≠ bO)
    (hR : ∀ A' W, Sl A' fuel bM bR bO vR (.pointer (some ⟨b, 0, none⟩)) (.pointer (some ⟨bp, 0, none⟩)) (.pointer (some ⟨bi, 0, none⟩)) v22 v23 (.slice (some ⟨gl, 0, none⟩) 2 cl_) (.slice none 0 0) v28 → W.os = wr.os → W.tape = wr.tape → W.output = wr.output → W.heap = (wr.setCell ⟨gD, k, none⟩ (.int .i64 y)).heap → R ⟨A', []⟩ W) :
    RInv.upto Tryd.prog 2 (RInv.behind 13 (RInv.inside (RInv.behind 1 (((Tryd.f15.body.map RInv.loops).getD []).getD 1 .skip)))) R (Exit.inBlock 3 (Exit.then K0 (Exit.inBlock 2 (Exit.then K2 (bodyPost Tryd.prog Tryd.f15 R0))))) ⟨A, []⟩ wr := by
  obtain ⟨u, rfl⟩ := fold hs
  have i0 := hbi.cell 0 (v := .int .i64 7) rfl
  have i1 := hbi.cell 1 (v := .int .i64 a_) rfl
  have p2 := hbp.cell 2 (v := .int .i64 lo) rfl
  have p3 := hbp.cell 3 (v := .int .i64 hi) rfl
  have o3 := hO.cell 3 (v := .slice (some ⟨gD, 0, none⟩) dl cD) rfl
  have hkI : (k : Int) < dl := by omega
  have hdI : (dl : Int) ≤ 250 := by omega
  have H1 : Hid (lo ≤ (k : Int)) := h1
  have H2 : Hid ((k : Int) ≤ hi - 1) := (by omega : (k : Int) ≤ hi - 1)
  have hh0 : 0 ≤ hi := by omega
  have HWR : Hid (IntKind.i64.wrap (hi - 1) = hi - 1) := (by rw [IntKind.wrap_i64]; omega : IntKind.i64.wrap (hi - 1) = hi - 1)
  have hn1' := hn1.symm
  have hn2' := hn2.symm
  have HR : Hid _ := hR
  clear hs hbi hbp hO hR
  conv => arg 3; whnf
  refine upto_seq ?_
  go_wp2
  refine upto_seq ?_
  go_wp2
  go_region_held3 (fun w' => w'.cell? ⟨gl, 0, none⟩ = some (.int .i64 k) ∧ w'.cell? ⟨bp, 2, none⟩ = some (.int .i64 lo) ∧ w'.cell? ⟨bp, 3, none⟩ = some (.int .i64 hi)) (go_keep) (first | (go_at_call 27; refine (isIn_yes _ _ _ _ H1.out (by rw [HWR.out]; exact H2.out)).mono ?_; rintro e w' ⟨rfl, rfl⟩))
  all_goals
    go_wp2
    go_region_held3 (fun w' => w'.cell? ⟨gl, 0, none⟩ = some (.int .i64 k) ∧ w'.cell? ⟨gl, 1, none⟩ = some (.int .i64 y) ∧ w'.cell? ⟨bO, 3, none⟩ = some (.slice (some ⟨gD, 0, none⟩) dl cD)) (go_keep) (fail)
    all_goals
      go_wp2
      exact HR.out _ _ ⟨rfl, rfl, rfl, rfl, rfl, rfl, rfl, rfl, rfl, rfl, rfl, rfl, rfl, rfl, rfl⟩ rfl rfl rfl rfl

set_option maxRecDepth 1000000 in
set_option maxHeartbeats 4000000 in
/-- Do -/
theorem do_ {A : Array Value} {fuel : Int} {bM bR bO : Nat} {vR v19 v20 v21 v22 v23 v24 v25 v28 : Value} {w w1 wr : World} {own : Nat → Tag} {vT vD vC : Value} {G : List (Fr × Nat × Value)} {f : Fr} {b : Nat} {v : Value} {data told : List Int} {C : List (Rec × Value)} {R : Act → World → Prop} {K0 K2 : Act → World → Prop} {R0 : Ending → World → Prop} {r : Int × Int × St} {rm : List Fr} {bp bi gl cl_ : Nat} {a_ b_ c_ : Int} (hs : Sl A fuel bM bR bO vR (.pointer (some ⟨b, 0, none⟩)) (.pointer (some ⟨bp, 0, none⟩)) (.pointer (some ⟨bi, 0, none⟩)) v22 v23 (.slice (some ⟨gl, 0, none⟩) 2 cl_) v25 v28) (hbi : Block own wr bi #[.int .i64 8, .int .i64 a_, .int .i64 b_, .int .i64 c_] 27 (12, 0)) {x y : Int} (hx : wr.cell? ⟨gl, 0, none⟩ = some (.int .i64 x)) (hy : wr.cell? ⟨gl, 1, none⟩ = some (.int .i64 y)) (hcl : 2 ≤ cl_) (ha1 : 1 ≤ a_) (ha2 : a_ ≤ 10)
    (hR : ∀ A' W, Sl A' fuel bM bR bO vR (.pointer (some ⟨b, 0, none⟩)) (.pointer (some ⟨bp, 0, none⟩)) (.pointer (some ⟨bi, 0, none⟩)) v22 v23 (.slice (some ⟨gl, 0, none⟩) 2 cl_) (.slice (some ⟨wr.heap.size, 0, none⟩) 1 1) v28 → W.os = wr.os → W.tape = wr.tape → W.output = wr.output → W.heap = (wr.alloc (.cells #[.int .i64 (ActQ.wdoT a_ x y)] 3)).heap → R ⟨A', []⟩ W) :
    RInv.upto Tryd.prog 2 (RInv.behind 13 (RInv.inside (RInv.behind 1 (((Tryd.f15.body.map RInv.loops).getD []).getD 1 .skip)))) R (Exit.inBlock 3 (Exit.then K0 (Exit.inBlock 2 (Exit.then K2 (bodyPost Tryd.prog Tryd.f15 R0))))) ⟨A, []⟩ wr := by
  obtain ⟨u, rfl⟩ := fold hs
  have i0 := hbi.cell 0 (v := .int .i64 8) rfl
  have i1 := hbi.cell 1 (v := .int .i64 a_) rfl
  have k29 : ∀ W, Calls Tryd.prog 29 #[.int .i64 a_, .int .i64 x, .int .i64 y] W fun e w' => ∃ r, e = .returned (.tuple #[.int .i64 (ActQ.wdoT a_ x y), .int .i64 r]) ∧ w' = W := fun W => RDid.did a_ x y ha1 ha2 W
  obtain ⟨z, ez⟩ : ∃ z, z = ActQ.wdoT a_ x y := ⟨_, rfl⟩
  rw [← ez] at k29 hR
  have K29 : Hid _ := k29
  have HR : Hid _ := hR
  clear hs hbi hR k29 ez
  conv => arg 3; whnf
  refine upto_seq ?_
  go_wp2
  refine upto_seq ?_
  go_wp2
  go_region_held3 (fun w' => w'.cell? ⟨gl, 0, none⟩ = some (.int .i64 x) ∧ w'.cell? ⟨gl, 1, none⟩ = some (.int .i64 y) ∧ w'.cell? ⟨bi, 1, none⟩ = some (.int .i64 a_)) (go_keep) (first | (go_at_call 29; refine (K29.out _).mono ?_; rintro e w' ⟨r_, rfl, rfl⟩))
  all_goals
    go_wp2
    exact HR.out _ _ ⟨rfl, rfl, rfl, rfl, rfl, rfl, rfl, rfl, rfl, rfl, rfl, rfl, rfl, rfl, rfl⟩ rfl rfl rfl rfl

set_option maxRecDepth 1000000 in
set_option maxHeartbeats 4000000 in
/-- Trap -/
theorem trap {A : Array Value} {fuel : Int} {bM bR bO : Nat} {vR v19 v20 v21 v22 v23 v24 v25 v28 : Value} {w w1 wr : World} {own : Nat → Tag} {vT vD vC : Value} {G : List (Fr × Nat × Value)} {f : Fr} {b : Nat} {v : Value} {data told : List Int} {C : List (Rec × Value)} {R : Act → World → Prop} {K0 K2 : Act → World → Prop} {R0 : Ending → World → Prop} {r : Int × Int × St} {rm : List Fr} {bp bi gl cl_ : Nat} {a_ b_ c_ : Int} (hs : Sl A fuel bM bR bO vR (.pointer (some ⟨b, 0, none⟩)) (.pointer (some ⟨bp, 0, none⟩)) (.pointer (some ⟨bi, 0, none⟩)) v22 v23 v24 v25 v28) (hbi : Block own wr bi #[.int .i64 15, .int .i64 a_, .int .i64 b_, .int .i64 c_] 27 (12, 0)) (h : RInv own w1 wr bO vR vT vD vC G data told C) (hT : Begun w w1 bR) (hr : (2, 0, (⟨rm, data, told, C.map Prod.fst⟩ : St)) = r) (hR0 : R0 = Gave w r) :
    RInv.upto Tryd.prog 2 (RInv.behind 13 (RInv.inside (RInv.behind 1 (((Tryd.f15.body.map RInv.loops).getD []).getD 1 .skip)))) R (Exit.inBlock 3 (Exit.then K0 (Exit.inBlock 2 (Exit.then K2 (bodyPost Tryd.prog Tryd.f15 R0))))) ⟨A, []⟩ wr := by
  obtain ⟨u, rfl⟩ := fold hs
  have i0 := hbi.cell 0 (v := .int .i64 15) rfl
  have i1 := hbi.cell 1 (v := .int .i64 a_) rfl
  subst hR0
  obtain ⟨a1, x1, rfl⟩ := owned_form h.told
  obtain ⟨a2, x2, rfl⟩ := owned_form h.dat
  obtain ⟨a3, x3, rfl⟩ := owned_form h.calls
  have hz := zero_set h hT 0 (.int .i64 2)
  have q0 := h.out.cell 0 (v := .int .i64 0) rfl
  have q1 := h.out.cell 1 (v := .int .i64 0) rfl
  have q2 := h.out.cell 2 (v := .slice a1 told.length x1) rfl
  have q3 := h.out.cell 3 (v := .slice a2 data.length x2) rfl
  have q4 := h.out.cell 4 (v := .slice a3 C.length x3) rfl
  have z0 := h.out.frozen 0
  have one := ones (a := 2) (b := 0) (rfl : Value.slice a1 told.length x1 = _) (rfl : Value.slice a2 data.length x2 = _) (rfl : Value.slice a3 C.length x3 = _)
  have fin : ∀ W : World, W.os = wr.os → W.tape = wr.tape → W.output = wr.output → W.heap = (wr.setCell ⟨bO, 0, none⟩ (.int .i64 2)).heap → Gave w r (.returned (.tuple #[.agg #[.int .i64 2, .int .i64 0, .slice a1 told.length x1, .slice a2 data.length x2, .slice a3 C.length x3], .int .i64 0])) (W.setRow bR #[.int .i64 2, .int .i64 0, .slice a1 told.length x1, .slice a2 data.length x2, .slice a3 C.length x3]) := fun W e0 e1 e2 e3 =>
    REnds.gave h hT ((Moves.setCell own wr bO 0 (.int .i64 2) h.out.tag).trans (same_moves (w := wr.setCell ⟨bO, 0, none⟩ (.int .i64 2)) e0 e1 e2 e3 _)) _ hr
  obtain ⟨nT, eT⟩ : ∃ n, n = told.length := ⟨_, rfl⟩
  obtain ⟨nD, eD⟩ : ∃ n, n = data.length := ⟨_, rfl⟩
  obtain ⟨nC, eC⟩ : ∃ n, n = C.length := ⟨_, rfl⟩
  rw [← eT] at q2 one fin
  rw [← eD] at q3 one fin
  rw [← eC] at q4 one fin
  have hz' : ∀ W : World, W.heap = (wr.setCell ⟨bO, 0, none⟩ (.int .i64 2)).heap → W.heap[bR]? = some (.cells zero 41 (0, 0)) := fun W e3 => by rw [e3]; exact hz
  have HZ : Hid _ := hz'
  have ONE : Hid _ := one
  have FEND : Hid _ := fin
  clear hz hz' one fin hT hr eT eD eC
  clear hs hbi h
  conv => arg 3; whnf
  refine upto_seq ?_
  go_wp2
  refine upto_seq ?_
  go_wp2_with ((with_reducible show wpList _ _ _ ({ dst := none, op := Op.store 41 _ _, type := _, pos := _, after := _, guard := _ } :: _) _ _); refine wpList_store_row rfl 41 _ _ rfl bR #[.int .i64 2, .int .i64 0, .slice a1 nT x1, .slice a2 nD x2, .slice a3 nC x3] rfl rfl 41 zero (HZ.out _ rfl) size41 rfl ONE.out ?_)
  · refine bodyPost_ret (results5 _ _ bR #[.int .i64 2, .int .i64 0, .slice a1 nT x1, .slice a2 nD x2, .slice a3 nC x3] 41 (0, 0) _ rfl rfl (setRow_heap _ _ _ _ _ _ (HZ.out _ rfl)) rfl) rfl ?_
    exact FEND.out _ rfl rfl rfl rfl
end Go.Proofs.YtmbbkabecipkaacDoor.RArmB
