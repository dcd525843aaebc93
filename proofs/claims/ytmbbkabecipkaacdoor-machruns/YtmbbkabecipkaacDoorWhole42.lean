/-
  RunOf, A ROUND: what an instruction does: a Gate that does not go through.
  Conditions: each theorem's own hypotheses.
-/
import Derived.Test.YtmbbkabecipkaacDoorWhole41
namespace Go.Proofs.YtmbbkabecipkaacDoor.RArmI
open Go.RowKit Tab Go.Proofs.YtmbbkabecipkaacDoor.Check Lists Go.Proofs.YtmbbkabecipkaacDoor.Read Img Mach Own Go.Proofs.YtmbbkabecipkaacDoor.Inv RunBad RunNot RInv RSlot REnds Take MRun RPart RTake RFinish
set_option linter.unusedVariables false

set_option maxRecDepth 1000000 in
set_option maxHeartbeats 4000000 in
/-- Gate, of an entry that is not there -/
theorem gate_entry {A : Array Value} {fuel : Int} {bM bR bO : Nat} {vR v19 v20 v21 v22 v23 v24 v25 v28 : Value} {w w1 wr : World} {own : Nat → Tag} {vT vD vC : Value} {G : List (Fr × Nat × Value)} {f : Fr} {b : Nat} {v : Value} {data told : List Int} {C : List (Rec × Value)} {R : Act → World → Prop} {K0 K2 : Act → World → Prop} {R0 : Ending → World → Prop} {r : Int × Int × St} {rm : List Fr} {bp bi gl cl_ : Nat} {gR cR m : Nat} {vR' : Value} {a_ b_ c_ : Int} (hs : Sl A fuel bM bR bO (.slice (some ⟨gR, 0, none⟩) m cR) (.pointer (some ⟨b, 0, none⟩)) (.pointer (some ⟨bp, 0, none⟩)) (.pointer (some ⟨bi, 0, none⟩)) v22 v23 v24 v25 v28) (hbi : Block own wr bi #[.int .i64 12, .int .i64 a_, .int .i64 b_, .int .i64 c_] 27 (12, 0)) {q k i_ : Nat} (ha : a_ = k) (hbq : b_ = i_) (hq : wr.cell? ⟨b, 0, none⟩ = some (.int .i64 q)) {len cap : Nat} {bl off : Nat} (hM : wr.cell? ⟨bM, 0, none⟩ = some (.slice (some ⟨bl, off, none⟩) len cap)) (hlen : len ≤ 5) (hk : k < len) {ea : Option Addr} {el ec : Nat} (hE : wr.cell? ⟨bl, off + k * 4 + 1, none⟩ = some (.slice ea el ec)) (hel : el ≤ 8) (hi_ : el ≤ i_) (h : RInv own w1 wr bO vR' vT vD vC G data told C) (hT : Begun w w1 bR) (hr : (4, 0, (⟨rm, data, told, C.map Prod.fst⟩ : St)) = r) (hR0 : R0 = Gave w r) :
    RInv.upto Tryd.prog 2 (RInv.behind 13 (RInv.inside (RInv.behind 1 (((Tryd.f15.body.map RInv.loops).getD []).getD 1 .skip)))) R (Exit.inBlock 3 (Exit.then K0 (Exit.inBlock 2 (Exit.then K2 (bodyPost Tryd.prog Tryd.f15 R0))))) ⟨A, []⟩ wr := by
  obtain ⟨u, rfl⟩ := fold hs
  have i0 := hbi.cell 0 (v := .int .i64 12) rfl
  have i1 := hbi.cell 1 (v := .int .i64 a_) rfl
  subst ha
  subst hbq
  have i2 := hbi.cell 2 (v := .int .i64 (i_ : Int)) rfl
  have i3 := hbi.cell 3 (v := .int .i64 c_) rfl
  have n1 := World.new_ne wr _ hq
  have n2 := World.new_ne wr _ i1
  have n3 := World.new_ne wr _ i0
  have n4 := World.new_ne wr _ hM
  have n5 := World.new_ne wr _ i2
  have n6 := World.new_ne wr _ i3
  have hbo : bO < wr.heap.size := h.out.lt
  have hbo' : wr.heap.size ≠ bO := by omega
  have hbo'' : bO ≠ wr.heap.size := by omega
  have uc : ∀ (o : Obj) (j : Nat), (wr.alloc o).cell? ⟨bO, j, none⟩ = wr.cell? ⟨bO, j, none⟩ := fun o j => World.cell?_alloc_old wr o ⟨bO, j, none⟩ hbo''
  have hbil : bi ≠ wr.heap.size := Nat.ne_of_lt hbi.lt
  have hbml : bM ≠ wr.heap.size := Nat.ne_of_lt (World.block_lt_of_cell? wr _ hM)
  have ub : ∀ (o : Obj) (j : Nat), (wr.alloc o).cell? ⟨bi, j, none⟩ = wr.cell? ⟨bi, j, none⟩ := fun o j => World.cell?_alloc_old wr o ⟨bi, j, none⟩ hbil
  have um : ∀ (o : Obj) (j : Nat), (wr.alloc o).cell? ⟨bM, j, none⟩ = wr.cell? ⟨bM, j, none⟩ := fun o j => World.cell?_alloc_old wr o ⟨bM, j, none⟩ hbml
  have hlI : (len : Int) ≤ 5 := by omega
  have hkI : (k : Int) < len := by omega
  have hbll : bl ≠ wr.heap.size := Nat.ne_of_lt (World.block_lt_of_cell? wr _ hE)
  have ul : ∀ (o : Obj) (j : Nat), (wr.alloc o).cell? ⟨bl, j, none⟩ = wr.cell? ⟨bl, j, none⟩ := fun o j => World.cell?_alloc_old wr o ⟨bl, j, none⟩ hbll
  have heI : (el : Int) ≤ 8 := by omega
  have dk : decide (len ≤ k) = false := decide_eq_false (by omega)
  have hiI : (el : Int) ≤ i_ := by omega
  have di : decide (el ≤ i_) = true := decide_eq_true (by omega)
  subst hR0
  obtain ⟨a1, x1, rfl⟩ := owned_form h.told
  obtain ⟨a2, x2, rfl⟩ := owned_form h.dat
  obtain ⟨a3, x3, rfl⟩ := owned_form h.calls
  have hz := zero_set h hT 0 (.int .i64 4)
  have q0 := h.out.cell 0 (v := .int .i64 0) rfl
  have q1 := h.out.cell 1 (v := .int .i64 0) rfl
  have q2 := h.out.cell 2 (v := .slice a1 told.length x1) rfl
  have q3 := h.out.cell 3 (v := .slice a2 data.length x2) rfl
  have q4 := h.out.cell 4 (v := .slice a3 C.length x3) rfl
  have z0 := h.out.frozen 0
  have one := ones (a := 4) (b := 0) (rfl : Value.slice a1 told.length x1 = _) (rfl : Value.slice a2 data.length x2 = _) (rfl : Value.slice a3 C.length x3 = _)
  have fin : ∀ W : World, W.os = wr.os → W.tape = wr.tape → W.output = wr.output → (W.heap = ((wr.setCell ⟨bO, 0, none⟩ (.int .i64 4)).alloc (.cells #[.int .i64 q, .int .i64 k, .int .i64 0, .int .i64 0, .int .i64 0, .int .i64 0, .int .i64 0, .int .i64 0, .int .i64 0, .int .i64 0, .slice none 0 0, .int .i64 (-1)] 73)).heap ∨ W.heap = ((wr.alloc (.cells #[.int .i64 q, .int .i64 k, .int .i64 0, .int .i64 0, .int .i64 0, .int .i64 0, .int .i64 0, .int .i64 0, .int .i64 0, .int .i64 0, .slice none 0 0, .int .i64 (-1)] 73)).setCell ⟨bO, 0, none⟩ (.int .i64 4)).heap) → Gave w r (.returned (.tuple #[.agg #[.int .i64 4, .int .i64 0, .slice a1 told.length x1, .slice a2 data.length x2, .slice a3 C.length x3], .int .i64 0])) (W.setRow bR #[.int .i64 4, .int .i64 0, .slice a1 told.length x1, .slice a2 data.length x2, .slice a3 C.length x3]) := fun W e0 e1 e2 e3 =>
    e3.elim (fun e3 => REnds.gave h hT ((Moves.setCell own wr bO 0 (.int .i64 4) h.out.tag).trans ((Moves.alloc own _ (.cells #[.int .i64 q, .int .i64 k, .int .i64 0, .int .i64 0, .int .i64 0, .int .i64 0, .int .i64 0, .int .i64 0, .int .i64 0, .int .i64 0, .slice none 0 0, .int .i64 (-1)] 73) _).trans (same_moves (w := ((wr.setCell ⟨bO, 0, none⟩ (.int .i64 4)).alloc (.cells #[.int .i64 q, .int .i64 k, .int .i64 0, .int .i64 0, .int .i64 0, .int .i64 0, .int .i64 0, .int .i64 0, .int .i64 0, .int .i64 0, .slice none 0 0, .int .i64 (-1)] 73))) e0 e1 e2 e3 _))) _ hr) (fun e3 => REnds.gave h hT ((Moves.alloc own wr (.cells #[.int .i64 q, .int .i64 k, .int .i64 0, .int .i64 0, .int .i64 0, .int .i64 0, .int .i64 0, .int .i64 0, .int .i64 0, .int .i64 0, .slice none 0 0, .int .i64 (-1)] 73) (1, 0)).trans ((Moves.setCell own _ bO 0 (.int .i64 4) h.out.tag).trans (same_moves (w := ((wr.alloc (.cells #[.int .i64 q, .int .i64 k, .int .i64 0, .int .i64 0, .int .i64 0, .int .i64 0, .int .i64 0, .int .i64 0, .int .i64 0, .int .i64 0, .slice none 0 0, .int .i64 (-1)] 73)).setCell ⟨bO, 0, none⟩ (.int .i64 4))) e0 e1 e2 e3 _))) _ hr)
  obtain ⟨nT, eT⟩ : ∃ n, n = told.length := ⟨_, rfl⟩
  obtain ⟨nD, eD⟩ : ∃ n, n = data.length := ⟨_, rfl⟩
  obtain ⟨nC, eC⟩ : ∃ n, n = C.length := ⟨_, rfl⟩
  rw [← eT] at q2 one fin
  rw [← eD] at q3 one fin
  rw [← eC] at q4 one fin
  have hz' : ∀ W : World, (W.heap = ((wr.setCell ⟨bO, 0, none⟩ (.int .i64 4)).alloc (.cells #[.int .i64 q, .int .i64 k, .int .i64 0, .int .i64 0, .int .i64 0, .int .i64 0, .int .i64 0, .int .i64 0, .int .i64 0, .int .i64 0, .slice none 0 0, .int .i64 (-1)] 73)).heap ∨ W.heap = ((wr.alloc (.cells #[.int .i64 q, .int .i64 k, .int .i64 0, .int .i64 0, .int .i64 0, .int .i64 0, .int .i64 0, .int .i64 0, .int .i64 0, .int .i64 0, .slice none 0 0, .int .i64 (-1)] 73)).setCell ⟨bO, 0, none⟩ (.int .i64 4)).heap) → W.heap[bR]? = some (.cells zero 41 (0, 0)) := fun W e3 => by
    rcases e3 with e3 | e3
    · rw [e3, Below.heap_alloc _ _ _ (Array.getElem?_eq_some_iff.1 hz).1]; exact hz
    · rw [e3, Below.heap_setCell _ _ _ _ (fun e => apart h hT e), Below.heap_alloc _ _ _ (Array.getElem?_eq_some_iff.1 (zero_at h hT)).1]; exact zero_at h hT
  have HZ : Hid _ := hz'
  have ONE : Hid _ := one
  have FEND : Hid _ := fin
  clear hz hz' one fin hT hr eT eD eC
  clear hs hbi h hlen hk hel
  conv => arg 3; whnf
  refine upto_seq ?_
  go_wp2
  refine upto_seq ?_
  go_wp2
  go_region_held3 (fun w' => w'.cell? ⟨b, 0, none⟩ = some (.int .i64 q) ∧ w'.cell? ⟨bi, 1, none⟩ = some (.int .i64 k) ∧ w'.cell? ⟨bi, 0, none⟩ = some (.int .i64 12)) (go_keep) (fail)
  all_goals
    go_wp2
    go_quiet (fail)
    all_goals
      go_wp2_with ((with_reducible show wpList _ _ _ ({ dst := none, op := Op.store 41 _ _, type := _, pos := _, after := _, guard := _ } :: _) _ _); refine wpList_store_row rfl 41 _ _ rfl bR #[.int .i64 4, .int .i64 0, .slice a1 nT x1, .slice a2 nD x2, .slice a3 nC x3] rfl rfl 41 zero (HZ.out _ (by first | exact .inl rfl | exact .inr rfl)) size41 rfl ONE.out ?_)
      refine bodyPost_ret (results5 _ _ bR #[.int .i64 4, .int .i64 0, .slice a1 nT x1, .slice a2 nD x2, .slice a3 nC x3] 41 (0, 0) _ rfl rfl (setRow_heap _ _ _ _ _ _ (HZ.out _ (by first | exact .inl rfl | exact .inr rfl))) rfl) rfl ?_
      exact FEND.out _ rfl rfl rfl (by first | exact .inl rfl | exact .inr rfl)
end Go.Proofs.YtmbbkabecipkaacDoor.RArmI
