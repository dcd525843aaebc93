/-
  RunOf, A ROUND: its part, its instruction.
  Conditions: each theorem's own hypotheses.
-/
import Derived.Test.YtmbbkabecipkaacDoorWhole22
import Derived.Deep.RegionHeld3
import Derived.Deep.QuietTactic
import Derived.BigQuiet
namespace Go.Proofs.YtmbbkabecipkaacDoor.RPart
open Go.RowKit Tab Go.Proofs.YtmbbkabecipkaacDoor.Check Lists Go.Proofs.YtmbbkabecipkaacDoor.Read Img Mach Own Go.Proofs.YtmbbkabecipkaacDoor.Inv RunBad RunNot RInv RSlot REnds Take MRun
set_option linter.unusedVariables false

/-- what is known of the image, wherever what lay there when the loop began is as it was -/
structure RSure (w1 : World) (bM : Nat) (ao : Option Addr) (len cap dlen : Nat) (P : Nat → PartD) : Prop where
  img : ∀ w', Below w1.heap.size w1 w' → Parts w' ao len P ∧ w'.cell? ⟨bM, 0, none⟩ = some (.slice ao len cap)
  len5 : len ≤ 5
  el8 : ∀ k, k < len → (P k).el ≤ 8
  cl1200 : ∀ k, k < len → (P k).cl ≤ 1200
  code : ∀ k, k < len → ∀ j, j < (P k).cl → fault ((P k).o j) ((P k).a j) ((P k).b j) ((P k).c j) = 0
  own : ∀ k, k < len → 0 ≤ (P k).lo ∧ (P k).hi ≤ dlen
  entries : ∀ k, k < len → ∀ j, j < (P k).el → (0 ≤ (P k).ats j ∧ (P k).ats j < (P k).cl) ∧ (0 ≤ (P k).prs j ∧ (P k).prs j ≤ 4)


theorem same_moves {own : Nat → Tag} {w W : World} (e0 : W.os = w.os) (e1 : W.tape = w.tape) (e2 : W.output = w.output) (e3 : W.heap = w.heap) (t : Tag) : Moves own own w W t := ⟨e0, e1, e2, Nat.le_of_eq (by rw [e3]), fun k _ _ => by rw [e3], fun _ _ => rfl⟩

theorem new_moves {own : Nat → Tag} {w W : World} {o : Obj} (e0 : W.os = w.os) (e1 : W.tape = w.tape) (e2 : W.output = w.output) (e3 : W.heap = (w.alloc o).heap) (t : Tag) : Moves own (also own w.heap.size t) w W t :=
  ⟨e0, e1, e2, by rw [e3]; simp, fun k hk _ => by rw [e3]; exact Below.heap_alloc _ _ _ hk, fun k hk => by unfold also; rw [if_neg (by omega)]⟩

set_option maxRecDepth 1000000 in
set_option maxHeartbeats 4000000 in
/-- the part of the last room -/
theorem part_ {A : Array Value} {fuel : Int} {bM bR bO : Nat} {vR v19 v20 v21 v22 v23 v24 v25 v28 : Value} {w w1 wr : World} {own : Nat → Tag} {vT vD vC : Value} {G : List (Fr × Nat × Value)} {f : Fr} {b : Nat} {v : Value} {data told : List Int} {C : List (Rec × Value)} {R : Act → World → Prop} {K0 K2 : Act → World → Prop} {R0 : Ending → World → Prop} {r : Int × Int × St} {rm : List Fr} {ao : Option Addr} {len cap dlen : Nat} {P : Nat → PartD} (hs : Sl A fuel bM bR bO vR (.pointer (some ⟨b, 0, none⟩)) v20 v21 v22 v23 v24 v25 v28) (h : RInv own w1 wr bO vR vT vD vC ((f, b, v) :: G) data told C) (hS : RSure w1 bM ao len cap dlen P) (hp : f.part < len)
    (hR : ∀ A' own' W bp, Sl A' fuel bM bR bO vR (.pointer (some ⟨b, 0, none⟩)) (.pointer (some ⟨bp, 0, none⟩)) v21 v22 v23 v24 v25 v28 → RInv own' w1 W bO vR vT vD vC ((f, b, v) :: G) data told C → Block own' W bp #[.slice (P f.part).ca (P f.part).cl (P f.part).cc, .slice (P f.part).ea (P f.part).el (P f.part).ec, .int .i64 (P f.part).lo, .int .i64 (P f.part).hi] 55 (11, 0) → R ⟨A', []⟩ W) :
    RInv.upto Tryd.prog 1 (RInv.behind 3 (RInv.inside (RInv.behind 1 (((Tryd.f15.body.map RInv.loops).getD []).getD 1 .skip)))) R (Exit.inBlock 3 (Exit.then K0 (Exit.inBlock 2 (Exit.then K2 (bodyPost Tryd.prog Tryd.f15 R0))))) ⟨A, []⟩ wr := by
  obtain ⟨u, rfl⟩ := fold hs
  obtain ⟨hin, cM⟩ := hS.img wr h.base.below
  obtain ⟨bl, off, rfl, hbl, t0, t1, t2, t3⟩ := Parts_at hin hp
  have hbM := World.block_lt_of_cell? wr _ cM
  have cb := h.rooms.1.1.cell 0 (v := .int .i64 f.part) rfl
  have hb := h.rooms.1.1.lt
  have lenI : (len : Int) ≤ 5 := by have := hS.len5; omega
  obtain ⟨q, hq⟩ : ∃ q, q = f.part := ⟨_, rfl⟩
  rw [← hq] at cb t0 t1 t2 t3 hR hp
  have hqI : (q : Int) < len := by omega
  have n1 := World.new_ne wr _ cM
  have n2 := World.new_ne wr _ cb
  have n3 := World.new_ne wr _ t0
  have n4 := World.new_ne wr _ t1
  have n5 := World.new_ne wr _ t2
  have n6 := World.new_ne wr _ t3
  have fin : ∀ A' W, Sl A' fuel bM bR bO vR (.pointer (some ⟨b, 0, none⟩)) (.pointer (some ⟨wr.heap.size, 0, none⟩)) v21 v22 v23 v24 v25 v28 → W.os = wr.os → W.tape = wr.tape → W.output = wr.output → W.heap = (wr.alloc (.cells #[.slice (P q).ca (P q).cl (P q).cc, .slice (P q).ea (P q).el (P q).ec, .int .i64 (P q).lo, .int .i64 (P q).hi] 55)).heap → R ⟨A', []⟩ W := by
    intro A' W hs' e0 e1 e2 e3
    have mv : Moves own (also own wr.heap.size (11, 0)) wr W (11, 0) := ⟨e0, e1, e2, by rw [e3]; simp, fun k hk _ => by rw [e3]; exact Below.heap_alloc _ _ _ hk, fun k hk => by unfold also; rw [if_neg (by omega)]⟩
    exact hR A' _ W wr.heap.size hs' (h.moves (n := 2) mv) ⟨by rw [e3]; exact heap_alloc_new _ _, by simp [also]⟩
  obtain ⟨ca, eca⟩ : ∃ x, x = (P q).ca := ⟨_, rfl⟩
  obtain ⟨cl, ecl⟩ : ∃ x, x = (P q).cl := ⟨_, rfl⟩
  obtain ⟨cc, ecc⟩ : ∃ x, x = (P q).cc := ⟨_, rfl⟩
  obtain ⟨ea, eea⟩ : ∃ x, x = (P q).ea := ⟨_, rfl⟩
  obtain ⟨el, eel⟩ : ∃ x, x = (P q).el := ⟨_, rfl⟩
  obtain ⟨ec, eec⟩ : ∃ x, x = (P q).ec := ⟨_, rfl⟩
  obtain ⟨lo, elo⟩ : ∃ x, x = (P q).lo := ⟨_, rfl⟩
  obtain ⟨hi, ehi⟩ : ∃ x, x = (P q).hi := ⟨_, rfl⟩
  rw [← eca, ← ecl, ← ecc, ← eea, ← eel, ← eec, ← elo, ← ehi] at fin
  rw [← eca, ← ecl, ← ecc] at t0
  rw [← eea, ← eel, ← eec] at t1
  rw [← elo] at t2
  rw [← ehi] at t3
  have FIN : Hid _ := fin
  clear hs h hS hR fin hin hq hb hp eca ecl ecc eea eel eec elo ehi
  conv => arg 3; whnf
  refine upto_seq ?_
  go_wp2
  go_region_held3 (fun w' => w'.cell? ⟨bM, 0, none⟩ = some (.slice (some ⟨bl, off, none⟩) len cap) ∧ w'.cell? ⟨b, 0, none⟩ = some (.int .i64 q) ∧ w'.cell? ⟨bl, off + q * 4, none⟩ = some (.slice ca cl cc) ∧ w'.cell? ⟨bl, off + q * 4 + 1, none⟩ = some (.slice ea el ec) ∧ w'.cell? ⟨bl, off + q * 4 + 2, none⟩ = some (.int .i64 lo) ∧ w'.cell? ⟨bl, off + q * 4 + 3, none⟩ = some (.int .i64 hi)) (go_keep) (fail)
  all_goals
    go_wp2
    exact FIN.out _ _ ⟨rfl, rfl, rfl, rfl, rfl, rfl, rfl, rfl, rfl, rfl, rfl, rfl, rfl, rfl, rfl⟩ rfl rfl rfl rfl

set_option maxRecDepth 1000000 in
set_option maxHeartbeats 4000000 in
/-- its place is one of the code -/
theorem at_on {A : Array Value} {fuel : Int} {bM bR bO : Nat} {vR v19 v20 v21 v22 v23 v24 v25 v28 : Value} {w w1 wr : World} {own : Nat → Tag} {vT vD vC : Value} {G : List (Fr × Nat × Value)} {f : Fr} {b : Nat} {v : Value} {data told : List Int} {C : List (Rec × Value)} {R : Act → World → Prop} {K0 K2 : Act → World → Prop} {R0 : Ending → World → Prop} {r : Int × Int × St} {rm : List Fr} {ao : Option Addr} {len cap dlen : Nat} {P : Nat → PartD} {bp : Nat} (hs : Sl A fuel bM bR bO vR (.pointer (some ⟨b, 0, none⟩)) (.pointer (some ⟨bp, 0, none⟩)) v21 v22 v23 v24 v25 v28) (h : RInv own w1 wr bO vR vT vD vC ((f, b, v) :: G) data told C) (hbp : Block own wr bp #[.slice (P f.part).ca (P f.part).cl (P f.part).cc, .slice (P f.part).ea (P f.part).el (P f.part).ec, .int .i64 (P f.part).lo, .int .i64 (P f.part).hi] 55 (11, 0)) (hpc : f.pc < (P f.part).cl) (hpl : f.pc ≤ 1200) (hcl : (P f.part).cl ≤ 1200)
    (hR : ∀ A' W, Sl A' fuel bM bR bO vR (.pointer (some ⟨b, 0, none⟩)) (.pointer (some ⟨bp, 0, none⟩)) v21 v22 v23 v24 v25 v28 → RInv own w1 W bO vR vT vD vC ((f, b, v) :: G) data told C → Block own W bp #[.slice (P f.part).ca (P f.part).cl (P f.part).cc, .slice (P f.part).ea (P f.part).el (P f.part).ec, .int .i64 (P f.part).lo, .int .i64 (P f.part).hi] 55 (11, 0) → R ⟨A', []⟩ W) :
    RInv.upto Tryd.prog 1 (RInv.behind 4 (RInv.inside (RInv.behind 1 (((Tryd.f15.body.map RInv.loops).getD []).getD 1 .skip)))) R (Exit.inBlock 3 (Exit.then K0 (Exit.inBlock 2 (Exit.then K2 (bodyPost Tryd.prog Tryd.f15 R0))))) ⟨A, []⟩ wr := by
  obtain ⟨u, rfl⟩ := fold hs
  have cb := h.rooms.1.1.cell 1 (v := .int .i64 f.pc) rfl
  have cp := hbp.cell 0 (v := .slice (P f.part).ca (P f.part).cl (P f.part).cc) rfl
  have fin : ∀ A' W, Sl A' fuel bM bR bO vR (.pointer (some ⟨b, 0, none⟩)) (.pointer (some ⟨bp, 0, none⟩)) v21 v22 v23 v24 v25 v28 → W.os = wr.os → W.tape = wr.tape → W.output = wr.output → W.heap = wr.heap → R ⟨A', []⟩ W := fun A' W hs' e0 e1 e2 e3 =>
    hR A' W hs' (h.moves (n := 0) (m := 9) (same_moves e0 e1 e2 e3 _)) (hbp.moves (same_moves e0 e1 e2 e3 (9, 9)) (by simp))
  have FIN : Hid _ := fin
  clear fin hR
  obtain ⟨ca, eca⟩ : ∃ x, x = (P f.part).ca := ⟨_, rfl⟩
  obtain ⟨cl, ecl⟩ : ∃ x, x = (P f.part).cl := ⟨_, rfl⟩
  obtain ⟨cc, ecc⟩ : ∃ x, x = (P f.part).cc := ⟨_, rfl⟩
  obtain ⟨pc, epc⟩ : ∃ x, x = f.pc := ⟨_, rfl⟩
  rw [← eca, ← ecl, ← ecc] at cp
  rw [← epc] at cb hpc hpl
  rw [← ecl] at hpc hcl
  have h1I : (pc : Int) ≤ 1200 := by omega
  have h2I : (cl : Int) ≤ 1200 := by omega
  have h3I : (pc : Int) < cl := by omega
  clear hs h hbp eca ecl ecc epc hpc hpl hcl
  conv => arg 3; whnf
  refine upto_seq ?_
  go_wp2
  go_region_held3 (fun w' => w'.cell? ⟨b, 1, none⟩ = some (.int .i64 pc) ∧ w'.cell? ⟨bp, 0, none⟩ = some (.slice ca cl cc)) (go_keep) (fail)
  all_goals
    go_wp2
    exact FIN.out _ _ ⟨rfl, rfl, rfl, rfl, rfl, rfl, rfl, rfl, rfl, rfl, rfl, rfl, rfl, rfl, rfl⟩ rfl rfl rfl rfl

set_option maxRecDepth 1000000 in
set_option maxHeartbeats 4000000 in
/-- it stands behind the code -/
theorem at_off {A : Array Value} {fuel : Int} {bM bR bO : Nat} {vR v19 v20 v21 v22 v23 v24 v25 v28 : Value} {w w1 wr : World} {own : Nat → Tag} {vT vD vC : Value} {G : List (Fr × Nat × Value)} {f : Fr} {b : Nat} {v : Value} {data told : List Int} {C : List (Rec × Value)} {R : Act → World → Prop} {K0 K2 : Act → World → Prop} {R0 : Ending → World → Prop} {r : Int × Int × St} {rm : List Fr} {ao : Option Addr} {len cap dlen : Nat} {P : Nat → PartD} {bp : Nat} (hs : Sl A fuel bM bR bO vR (.pointer (some ⟨b, 0, none⟩)) (.pointer (some ⟨bp, 0, none⟩)) v21 v22 v23 v24 v25 v28) (h : RInv own w1 wr bO vR vT vD vC ((f, b, v) :: G) data told C) (hbp : Block own wr bp #[.slice (P f.part).ca (P f.part).cl (P f.part).cc, .slice (P f.part).ea (P f.part).el (P f.part).ec, .int .i64 (P f.part).lo, .int .i64 (P f.part).hi] 55 (11, 0)) (hpc : ¬ f.pc < (P f.part).cl) (hpl : f.pc ≤ 1200) (hcl : (P f.part).cl ≤ 1200) (hT : Begun w w1 bR) (hr : (4, 0, (⟨rm, data, told, C.map Prod.fst⟩ : St)) = r) (hR0 : R0 = Gave w r) :
    RInv.upto Tryd.prog 1 (RInv.behind 4 (RInv.inside (RInv.behind 1 (((Tryd.f15.body.map RInv.loops).getD []).getD 1 .skip)))) R (Exit.inBlock 3 (Exit.then K0 (Exit.inBlock 2 (Exit.then K2 (bodyPost Tryd.prog Tryd.f15 R0))))) ⟨A, []⟩ wr := by
  obtain ⟨u, rfl⟩ := fold hs
  have cb := h.rooms.1.1.cell 1 (v := .int .i64 f.pc) rfl
  have cp := hbp.cell 0 (v := .slice (P f.part).ca (P f.part).cl (P f.part).cc) rfl
  subst hR0
  obtain ⟨a1, x1, rfl⟩ := owned_form h.told
  obtain ⟨a2, x2, rfl⟩ := owned_form h.dat
  obtain ⟨a3, x3, rfl⟩ := owned_form h.calls
  have hz := zero_set h hT 0 (.int .i64 4)
  have q0 := h.out.cell 0 (v := .int .i64 0) rfl
  have q1 := h.out.cell 1 (v := .int .i64 0) rfl
  have q2 := h.out.cell 2 (v := .slice a1 told.length x1) rfl
  have q3 := h.out.cell 3 (v := .slice a2 data.length x2) rfl
  have q4 := h.out.cell 4 (v := .slice a3 C.length x3) rfl
  have z0 := h.out.frozen 0
  have one := ones (a := 4) (b := 0) (rfl : Value.slice a1 told.length x1 = _) (rfl : Value.slice a2 data.length x2 = _) (rfl : Value.slice a3 C.length x3 = _)
  have fin : ∀ W : World, W.os = wr.os → W.tape = wr.tape → W.output = wr.output → W.heap = (wr.setCell ⟨bO, 0, none⟩ (.int .i64 4)).heap → Gave w r (.returned (.tuple #[.agg #[.int .i64 4, .int .i64 0, .slice a1 told.length x1, .slice a2 data.length x2, .slice a3 C.length x3], .int .i64 0])) (W.setRow bR #[.int .i64 4, .int .i64 0, .slice a1 told.length x1, .slice a2 data.length x2, .slice a3 C.length x3]) := fun W e0 e1 e2 e3 =>
    REnds.gave h hT ((Moves.setCell own wr bO 0 (.int .i64 4) h.out.tag).trans (same_moves (w := wr.setCell ⟨bO, 0, none⟩ (.int .i64 4)) e0 e1 e2 e3 _)) _ hr
  obtain ⟨nT, eT⟩ : ∃ n, n = told.length := ⟨_, rfl⟩
  obtain ⟨nD, eD⟩ : ∃ n, n = data.length := ⟨_, rfl⟩
  obtain ⟨nC, eC⟩ : ∃ n, n = C.length := ⟨_, rfl⟩
  rw [← eT] at q2 one fin
  rw [← eD] at q3 one fin
  rw [← eC] at q4 one fin
  have hz' : ∀ W : World, W.heap = (wr.setCell ⟨bO, 0, none⟩ (.int .i64 4)).heap → W.heap[bR]? = some (.cells zero 41 (0, 0)) := fun W e3 => by rw [e3]; exact hz
  have HZ : Hid _ := hz'
  have ONE : Hid _ := one
  have FEND : Hid _ := fin
  clear hz hz' one fin hT hr eT eD eC
  obtain ⟨ca, eca⟩ : ∃ x, x = (P f.part).ca := ⟨_, rfl⟩
  obtain ⟨cl, ecl⟩ : ∃ x, x = (P f.part).cl := ⟨_, rfl⟩
  obtain ⟨cc, ecc⟩ : ∃ x, x = (P f.part).cc := ⟨_, rfl⟩
  obtain ⟨pc, epc⟩ : ∃ x, x = f.pc := ⟨_, rfl⟩
  rw [← eca, ← ecl, ← ecc] at cp
  rw [← epc] at cb hpc hpl
  rw [← ecl] at hpc hcl
  have h1I : (pc : Int) ≤ 1200 := by omega
  have h2I : (cl : Int) ≤ 1200 := by omega
  have h3I : (cl : Int) ≤ pc := by omega
  clear hs h hbp eca ecl ecc epc hpc hpl hcl
  conv => arg 3; whnf
  refine upto_seq ?_
  go_wp2
  go_region_held3 (fun w' => w'.cell? ⟨b, 1, none⟩ = some (.int .i64 pc) ∧ w'.cell? ⟨bp, 0, none⟩ = some (.slice ca cl cc)) (go_keep) (fail)
  all_goals
    go_wp2_with ((with_reducible show wpList _ _ _ ({ dst := none, op := Op.store 41 _ _, type := _, pos := _, after := _, guard := _ } :: _) _ _); refine wpList_store_row rfl 41 _ _ rfl bR #[.int .i64 4, .int .i64 0, .slice a1 nT x1, .slice a2 nD x2, .slice a3 nC x3] rfl rfl 41 zero (HZ.out _ rfl) size41 rfl ONE.out ?_)
    refine bodyPost_ret (results5 _ _ bR #[.int .i64 4, .int .i64 0, .slice a1 nT x1, .slice a2 nD x2, .slice a3 nC x3] 41 (0, 0) _ rfl rfl (setRow_heap _ _ _ _ _ _ (HZ.out _ rfl)) rfl) rfl ?_
    exact FEND.out _ rfl rfl rfl rfl

set_option maxRecDepth 1000000 in
set_option maxHeartbeats 4000000 in
/-- the instruction -/
theorem instr {A : Array Value} {fuel : Int} {bM bR bO : Nat} {vR v19 v20 v21 v22 v23 v24 v25 v28 : Value} {w w1 wr : World} {own : Nat → Tag} {vT vD vC : Value} {G : List (Fr × Nat × Value)} {f : Fr} {b : Nat} {v : Value} {data told : List Int} {C : List (Rec × Value)} {R : Act → World → Prop} {K0 K2 : Act → World → Prop} {R0 : Ending → World → Prop} {r : Int × Int × St} {rm : List Fr} {ao : Option Addr} {len cap dlen : Nat} {P : Nat → PartD} {bp : Nat} (hs : Sl A fuel bM bR bO vR (.pointer (some ⟨b, 0, none⟩)) (.pointer (some ⟨bp, 0, none⟩)) v21 v22 v23 v24 v25 v28) (h : RInv own w1 wr bO vR vT vD vC ((f, b, v) :: G) data told C) (hbp : Block own wr bp #[.slice (P f.part).ca (P f.part).cl (P f.part).cc, .slice (P f.part).ea (P f.part).el (P f.part).ec, .int .i64 (P f.part).lo, .int .i64 (P f.part).hi] 55 (11, 0)) (hS : RSure w1 bM ao len cap dlen P) (hp : f.part < len) (hpc : f.pc < (P f.part).cl)
    (hR : ∀ A' own' W bi, Sl A' fuel bM bR bO vR (.pointer (some ⟨b, 0, none⟩)) (.pointer (some ⟨bp, 0, none⟩)) (.pointer (some ⟨bi, 0, none⟩)) v22 v23 v24 v25 v28 → RInv own' w1 W bO vR vT vD vC ((f, b, v) :: G) data told C → Block own' W bp #[.slice (P f.part).ca (P f.part).cl (P f.part).cc, .slice (P f.part).ea (P f.part).el (P f.part).ec, .int .i64 (P f.part).lo, .int .i64 (P f.part).hi] 55 (11, 0) → Block own' W bi #[.int .i64 ((P f.part).o f.pc), .int .i64 ((P f.part).a f.pc), .int .i64 ((P f.part).b f.pc), .int .i64 ((P f.part).c f.pc)] 27 (12, 0) → R ⟨A', []⟩ W) :
    RInv.upto Tryd.prog 1 (RInv.behind 5 (RInv.inside (RInv.behind 1 (((Tryd.f15.body.map RInv.loops).getD []).getD 1 .skip)))) R (Exit.inBlock 3 (Exit.then K0 (Exit.inBlock 2 (Exit.then K2 (bodyPost Tryd.prog Tryd.f15 R0))))) ⟨A, []⟩ wr := by
  obtain ⟨u, rfl⟩ := fold hs
  obtain ⟨hin, _⟩ := hS.img wr h.base.below
  have hcl := hS.cl1200 _ hp
  have cb := h.rooms.1.1.cell 1 (v := .int .i64 f.pc) rfl
  have cp := hbp.cell 0 (v := .slice (P f.part).ca (P f.part).cl (P f.part).cc) rfl
  obtain ⟨bl, off, eca, t0, t1, t2, t3⟩ := (hin _ hp).2.1 _ hpc
  rw [eca] at cp
  have fin : ∀ A' W, Sl A' fuel bM bR bO vR (.pointer (some ⟨b, 0, none⟩)) (.pointer (some ⟨bp, 0, none⟩)) (.pointer (some ⟨wr.heap.size, 0, none⟩)) v22 v23 v24 v25 v28 → W.os = wr.os → W.tape = wr.tape → W.output = wr.output → W.heap = (wr.alloc (.cells #[.int .i64 ((P f.part).o f.pc), .int .i64 ((P f.part).a f.pc), .int .i64 ((P f.part).b f.pc), .int .i64 ((P f.part).c f.pc)] 27)).heap → R ⟨A', []⟩ W := fun A' W hs' e0 e1 e2 e3 =>
    hR A' _ W wr.heap.size hs' (h.moves (n := 3) (m := 0) (new_moves e0 e1 e2 e3 _)) (hbp.moves (new_moves e0 e1 e2 e3 (12, 0)) (by simp)) ⟨by rw [e3]; exact heap_alloc_new _ _, by simp [also]⟩
  have n1 := World.new_ne wr _ cb
  have n2 := World.new_ne wr _ cp
  have n3 := World.new_ne wr _ t0
  have n4 := World.new_ne wr _ t1
  have n5 := World.new_ne wr _ t2
  have n6 := World.new_ne wr _ t3
  obtain ⟨cl, ecl⟩ : ∃ x, x = (P f.part).cl := ⟨_, rfl⟩
  obtain ⟨cc, ecc⟩ : ∃ x, x = (P f.part).cc := ⟨_, rfl⟩
  obtain ⟨pc, epc⟩ : ∃ x, x = f.pc := ⟨_, rfl⟩
  rw [← epc] at cb hpc t0 t1 t2 t3 fin
  rw [← ecl, ← ecc] at cp
  rw [← ecl] at hpc hcl
  obtain ⟨io, eo⟩ : ∃ x, x = (P f.part).o pc := ⟨_, rfl⟩
  obtain ⟨ia, ea⟩ : ∃ x, x = (P f.part).a pc := ⟨_, rfl⟩
  obtain ⟨ib, eb⟩ : ∃ x, x = (P f.part).b pc := ⟨_, rfl⟩
  obtain ⟨ic, ec⟩ : ∃ x, x = (P f.part).c pc := ⟨_, rfl⟩
  rw [← eo] at t0
  rw [← ea] at t1
  rw [← eb] at t2
  rw [← ec] at t3
  rw [← eo, ← ea, ← eb, ← ec] at fin
  have h2I : (cl : Int) ≤ 1200 := by omega
  have h3I : (pc : Int) < cl := by omega
  have FIN : Hid _ := fin
  clear hs h hbp hS hin hR fin eca ecl ecc epc eo ea eb ec hcl hp hpc
  conv => arg 3; whnf
  refine upto_seq ?_
  go_wp2
  go_region_held3 (fun w' => w'.cell? ⟨b, 1, none⟩ = some (.int .i64 pc) ∧ w'.cell? ⟨bp, 0, none⟩ = some (.slice (some ⟨bl, off, none⟩) cl cc) ∧ w'.cell? ⟨bl, off + pc * 4, none⟩ = some (.int .i64 io) ∧ w'.cell? ⟨bl, off + pc * 4 + 1, none⟩ = some (.int .i64 ia) ∧ w'.cell? ⟨bl, off + pc * 4 + 2, none⟩ = some (.int .i64 ib) ∧ w'.cell? ⟨bl, off + pc * 4 + 3, none⟩ = some (.int .i64 ic)) (go_keep) (fail)
  all_goals
    go_wp2
    exact FIN.out _ _ ⟨rfl, rfl, rfl, rfl, rfl, rfl, rfl, rfl, rfl, rfl, rfl, rfl, rfl, rfl, rfl⟩ rfl rfl rfl rfl

set_option maxRecDepth 1000000 in
set_option maxHeartbeats 4000000 in
/-- its place is one more; no words are needed yet -/
theorem next_ {A : Array Value} {fuel : Int} {bM bR bO : Nat} {vR v19 v20 v21 v22 v23 v24 v25 v28 : Value} {w w1 wr : World} {own : Nat → Tag} {vT vD vC : Value} {G : List (Fr × Nat × Value)} {f : Fr} {b : Nat} {v : Value} {data told : List Int} {C : List (Rec × Value)} {R : Act → World → Prop} {K0 K2 : Act → World → Prop} {R0 : Ending → World → Prop} {r : Int × Int × St} {rm : List Fr} (hs : Sl A fuel bM bR bO vR (.pointer (some ⟨b, 0, none⟩)) v20 v21 v22 v23 v24 v25 v28) (h : RInv own w1 wr bO vR vT vD vC ((f, b, v) :: G) data told C) (hpc : f.pc ≤ 1200)
    (hR : ∀ A' W, Sl A' fuel bM bR bO vR (.pointer (some ⟨b, 0, none⟩)) v20 v21 (.int .i64 0) v23 v24 v25 v28 → W = wr.setCell ⟨b, 1, none⟩ (.int .i64 ((f.pc + 1 : Nat) : Int)) → R ⟨A', []⟩ W) :
    RInv.upto Tryd.prog 2 (RInv.behind 6 (RInv.inside (RInv.behind 1 (((Tryd.f15.body.map RInv.loops).getD []).getD 1 .skip)))) R (Exit.inBlock 3 (Exit.then K0 (Exit.inBlock 2 (Exit.then K2 (bodyPost Tryd.prog Tryd.f15 R0))))) ⟨A, []⟩ wr := by
  obtain ⟨u, rfl⟩ := fold hs
  have cb := h.rooms.1.1.cell 1 (v := .int .i64 f.pc) rfl
  have zb := h.rooms.1.1.frozen 1
  obtain ⟨pc, epc⟩ : ∃ x, x = f.pc := ⟨_, rfl⟩
  rw [← epc] at cb hpc hR
  have h2I : (pc : Int) ≤ 1200 := by omega
  have HR : Hid _ := hR
  clear hs h hR epc hpc
  conv => arg 3; whnf
  refine upto_seq ?_
  go_wp2
  refine upto_seq ?_
  go_wp2
  exact HR.out _ _ ⟨rfl, rfl, rfl, rfl, rfl, rfl, rfl, rfl, rfl, rfl, rfl, rfl, rfl, rfl, rfl⟩ (by simp)
end Go.Proofs.YtmbbkabecipkaacDoor.RPart
