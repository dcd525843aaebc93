/-
  RunOf, A ROUND: how many words an instruction needs; they are taken.
  Conditions: each theorem's own hypotheses.
-/
import Derived.Test.YtmbbkabecipkaacDoorWhole23
namespace Go.Proofs.YtmbbkabecipkaacDoor.RTake
open Go.RowKit Tab Go.Proofs.YtmbbkabecipkaacDoor.Check Lists Go.Proofs.YtmbbkabecipkaacDoor.Read Img Mach Own Go.Proofs.YtmbbkabecipkaacDoor.Inv RunBad RunNot RInv RSlot REnds Take MRun RPart
set_option linter.unusedVariables false

/-- a new row of numbers -/
structure Fresh (w w' : World) (v' : Value) (l : List Int) : Prop where
  below : Below w.heap.size w w'
  form : ∃ a' c', v' = .slice a' l.length c'
  owned : ∀ (own : Nat → Tag) t, Owned (also own w.heap.size t) w' 3 1 v' l.length (ints l) t

theorem append_none (w : World) (ty : TypeId) (i : TypeInfo) (hi : Tryd.prog.info? 3 = some i) (da : Option Addr) (c : Nat) :
    (Builtin.append_ #[29, 29] ty #[.slice none 0 0, .slice da 0 c]).run Tryd.prog w = .ok (.slice none 0 0) w := by
  cases da <;> simp [Builtin.append_, Builtin.lenOf, Builtin.firstCells, run_underlying Tryd.underlying29, sizeOf, typeInfo, hi, loadCells, loadCellsFrom, Result.andThen]

/-- 'append([]int(nil), l...)' -/
theorem wp_copied {o : Oper} {a : Act} {w : World} {K : Act → World → Prop} {Q : Exit → Act → World → Prop}
    (s x : Operand) (hop : o.op = Op.call { callee := Callee.builtin Builtin.append, args := #[s, x], argTypes := #[29, 29] }) (hs : a.eval s = .slice none 0 0)
    (da : Option Addr) (l : List Int) (n c : Nat) (hx : a.eval x = .slice da n c) (hn : n = l.length) (hl : l.length ≤ 1000) (src : 0 < l.length → ∃ ad, da = some ad ∧ ∀ j u, (ints l)[j]? = some u → w.cell? (ad.add j) = some u)
    (h : ∀ v' w', Fresh w w' v' l → K (a.put o.dst v') w') : o.wp Tryd.prog a w K Q := by
  obtain ⟨i0, hi, hz0, hz1, hz2⟩ := info_parts info3
  subst hn
  rcases Nat.eq_zero_or_pos l.length with h0 | h0
  · obtain rfl := List.eq_nil_of_length_eq_zero h0
    have hrun := append_none w o.type i0 hi da c
    unfold Oper.wp
    simp [execOp, hop, resolve, invoke, builtin, hs, hx, hrun, Result.andThen]
    exact h _ _ ⟨Below.refl _ _, ⟨_, _, rfl⟩, fun own t => Owned.nil _ _ _ _ _⟩
  · obtain ⟨ad, rfl, hc⟩ := src h0
    refine wp_append_fresh w s x 29 hop 0 3 i0 (.int .i64 0) 1 8 Tryd.underlying29 hi hz0 hz1 hz2 rfl (by decide) (.slice none 0 0) 0 [] hs (World.ownsRow_nil _ _ _ _) ad l.length c h0 (ints l) hx (by rw [ints_length]; omega) hc (ints_oneCell .i64 l) (by unfold maxLen; omega) (by omega) (Nat.zero_le _) fun g' c' w' h2 h3 h4 => ?_
    have hg : g' = w.heap.size := by
      rcases h4 with h4 | h4
      · simp [Value.ownBlock] at h4
      · simpa [Value.ownBlock] using h4
    rw [Nat.zero_add] at h2 ⊢
    refine h _ _ ⟨(Below.refl _ _).grown h3 (Nat.le_refl _) (by simp [Value.ownBlock]), ⟨_, _, rfl⟩, fun own t => ⟨by simpa using h2, fun g hg' => ?_⟩⟩
    simp [Value.ownBlock] at hg'
    rw [← hg', hg]
    simp [also]

theorem wpList_copied {ops : Array Oper} {rest : List Oper} {o : Oper} {a : Act} {w : World} {Q : Exit → Act → World → Prop}
    (hg : o.guard = none) (s x : Operand) (hop : o.op = Op.call { callee := Callee.builtin Builtin.append, args := #[s, x], argTypes := #[29, 29] }) (hs : a.eval s = .slice none 0 0)
    (da : Option Addr) (l : List Int) (n c : Nat) (hx : a.eval x = .slice da n c) (hn : n = l.length) (hl : l.length ≤ 1000) (src : 0 < l.length → ∃ ad, da = some ad ∧ ∀ j u, (ints l)[j]? = some u → w.cell? (ad.add j) = some u)
    (h : ∀ v' w', Fresh w w' v' l → wpList Tryd.prog ops Q rest (a.put o.dst v') w') : wpList Tryd.prog ops Q (o :: rest) a w :=
  wpList_plain hg fun _ hK => wp_copied s x hop hs da l n c hx hn hl src fun v' w' hf => hK _ _ (h v' w' hf)

set_option maxRecDepth 1000000 in
set_option maxHeartbeats 4000000 in
/-- words are there -/
theorem few_on {A : Array Value} {fuel : Int} {bM bR bO : Nat} {vR v19 v20 v21 v22 v23 v24 v25 v28 : Value} {w w1 wr : World} {own : Nat → Tag} {vT vD vC : Value} {G : List (Fr × Nat × Value)} {f : Fr} {b : Nat} {v : Value} {data told : List Int} {C : List (Rec × Value)} {R : Act → World → Prop} {K0 K2 : Act → World → Prop} {R0 : Ending → World → Prop} {r : Int × Int × St} {rm : List Fr} {n : Nat} (hs : Sl A fuel bM bR bO vR (.pointer (some ⟨b, 0, none⟩)) v20 v21 (.int .i64 ((n : Nat) : Int)) v23 v24 v25 v28) (h : RInv own w1 wr bO vR vT vD vC ((f, b, v) :: G) data told C) (hw : f.words.length ≤ 40) (hn : n ≤ 4) (hfew : n ≤ f.words.length)
    (hR : ∀ A', Sl A' fuel bM bR bO vR (.pointer (some ⟨b, 0, none⟩)) v20 v21 (.int .i64 ((n : Nat) : Int)) (.int .i64 ((f.words.length - n : Nat) : Int)) v24 v25 v28 → R ⟨A', []⟩ wr) :
    RInv.upto Tryd.prog 2 (RInv.behind 9 (RInv.inside (RInv.behind 1 (((Tryd.f15.body.map RInv.loops).getD []).getD 1 .skip)))) R (Exit.inBlock 3 (Exit.then K0 (Exit.inBlock 2 (Exit.then K2 (bodyPost Tryd.prog Tryd.f15 R0))))) ⟨A, []⟩ wr := by
  obtain ⟨u, rfl⟩ := fold hs
  obtain ⟨aw, cw, rfl⟩ := owned_form h.rooms.1.2.1
  have cb := h.rooms.1.1.cell 10 (v := .slice aw f.words.length cw) (by have := h.rooms.1.2.2; simp [frCells, ints, this])
  have e23 : ((f.words.length - n : Nat) : Int) = (f.words.length : Int) - n := by omega
  rw [e23] at hR
  have HR : Hid _ := hR
  clear hR
  obtain ⟨k, ek⟩ : ∃ x, x = f.words.length := ⟨_, rfl⟩
  rw [← ek] at cb hw hfew
  rw [← ek] at HR
  have h1I : (k : Int) ≤ 40 := by omega
  have h2I : (n : Int) ≤ 4 := by omega
  have h3I : (n : Int) ≤ k := by omega
  clear hs h ek hw hn hfew e23
  conv => arg 3; whnf
  refine upto_seq ?_
  go_wp2
  refine upto_seq ?_
  go_wp2
  exact HR.out _ ⟨rfl, rfl, rfl, rfl, rfl, rfl, rfl, rfl, rfl, rfl, rfl, rfl, rfl, rfl, rfl⟩

set_option maxRecDepth 1000000 in
set_option maxHeartbeats 4000000 in
/-- too few words -/
theorem few_off {A : Array Value} {fuel : Int} {bM bR bO : Nat} {vR v19 v20 v21 v22 v23 v24 v25 v28 : Value} {w w1 wr : World} {own : Nat → Tag} {vT vD vC : Value} {G : List (Fr × Nat × Value)} {f : Fr} {b : Nat} {v : Value} {data told : List Int} {C : List (Rec × Value)} {R : Act → World → Prop} {K0 K2 : Act → World → Prop} {R0 : Ending → World → Prop} {r : Int × Int × St} {rm : List Fr} {n : Nat} (hs : Sl A fuel bM bR bO vR (.pointer (some ⟨b, 0, none⟩)) v20 v21 (.int .i64 ((n : Nat) : Int)) v23 v24 v25 v28) (h : RInv own w1 wr bO vR vT vD vC ((f, b, v) :: G) data told C) (hw : f.words.length ≤ 40) (hn : n ≤ 4) (hfew : ¬ n ≤ f.words.length) (hT : Begun w w1 bR) (hr : (4, 0, (⟨rm, data, told, C.map Prod.fst⟩ : St)) = r) (hR0 : R0 = Gave w r) :
    RInv.upto Tryd.prog 1 (RInv.behind 9 (RInv.inside (RInv.behind 1 (((Tryd.f15.body.map RInv.loops).getD []).getD 1 .skip)))) R (Exit.inBlock 3 (Exit.then K0 (Exit.inBlock 2 (Exit.then K2 (bodyPost Tryd.prog Tryd.f15 R0))))) ⟨A, []⟩ wr := by
  obtain ⟨u, rfl⟩ := fold hs
  obtain ⟨aw, cw, rfl⟩ := owned_form h.rooms.1.2.1
  have cb := h.rooms.1.1.cell 10 (v := .slice aw f.words.length cw) (by have := h.rooms.1.2.2; simp [frCells, ints, this])
  subst hR0
  obtain ⟨a1, x1, rfl⟩ := owned_form h.told
  obtain ⟨a2, x2, rfl⟩ := owned_form h.dat
  obtain ⟨a3, x3, rfl⟩ := owned_form h.calls
  have hz := zero_set h hT 0 (.int .i64 4)
  have q0 := h.out.cell 0 (v := .int .i64 0) rfl
  have q1 := h.out.cell 1 (v := .int .i64 0) rfl
  have q2 := h.out.cell 2 (v := .slice a1 told.length x1) rfl
  have q3 := h.out.cell 3 (v := .slice a2 data.length x2) rfl
  have q4 := h.out.cell 4 (v := .slice a3 C.length x3) rfl
  have z0 := h.out.frozen 0
  have one := ones (a := 4) (b := 0) (rfl : Value.slice a1 told.length x1 = _) (rfl : Value.slice a2 data.length x2 = _) (rfl : Value.slice a3 C.length x3 = _)
  have fin : ∀ W : World, W.os = wr.os → W.tape = wr.tape → W.output = wr.output → W.heap = (wr.setCell ⟨bO, 0, none⟩ (.int .i64 4)).heap → Gave w r (.returned (.tuple #[.agg #[.int .i64 4, .int .i64 0, .slice a1 told.length x1, .slice a2 data.length x2, .slice a3 C.length x3], .int .i64 0])) (W.setRow bR #[.int .i64 4, .int .i64 0, .slice a1 told.length x1, .slice a2 data.length x2, .slice a3 C.length x3]) := fun W e0 e1 e2 e3 =>
    REnds.gave h hT ((Moves.setCell own wr bO 0 (.int .i64 4) h.out.tag).trans (same_moves (w := wr.setCell ⟨bO, 0, none⟩ (.int .i64 4)) e0 e1 e2 e3 _)) _ hr
  obtain ⟨nT, eT⟩ : ∃ n, n = told.length := ⟨_, rfl⟩
  obtain ⟨nD, eD⟩ : ∃ n, n = data.length := ⟨_, rfl⟩
  obtain ⟨nC, eC⟩ : ∃ n, n = C.length := ⟨_, rfl⟩
  rw [← eT] at q2 one fin
  rw [← eD] at q3 one fin
  rw [← eC] at q4 one fin
  have hz' : ∀ W : World, W.heap = (wr.setCell ⟨bO, 0, none⟩ (.int .i64 4)).heap → W.heap[bR]? = some (.cells zero 41 (0, 0)) := fun W e3 => by rw [e3]; exact hz
  have HZ : Hid _ := hz'
  have ONE : Hid _ := one
  have FEND : Hid _ := fin
  clear hz hz' one fin hT hr eT eD eC
  obtain ⟨k, ek⟩ : ∃ x, x = f.words.length := ⟨_, rfl⟩
  rw [← ek] at cb hw hfew
  skip
  have h1I : (k : Int) ≤ 40 := by omega
  have h2I : (n : Int) ≤ 4 := by omega
  have h3I : (k : Int) < n := by omega
  clear hs h ek hw hn hfew 
  conv => arg 3; whnf
  refine upto_seq ?_
  go_wp2_with ((with_reducible show wpList _ _ _ ({ dst := none, op := Op.store 41 _ _, type := _, pos := _, after := _, guard := _ } :: _) _ _); refine wpList_store_row rfl 41 _ _ rfl bR #[.int .i64 4, .int .i64 0, .slice a1 nT x1, .slice a2 nD x2, .slice a3 nC x3] rfl rfl 41 zero (HZ.out _ rfl) size41 rfl ONE.out ?_)
  · refine bodyPost_ret (results5 _ _ bR #[.int .i64 4, .int .i64 0, .slice a1 nT x1, .slice a2 nD x2, .slice a3 nC x3] 41 (0, 0) _ rfl rfl (setRow_heap _ _ _ _ _ _ (HZ.out _ rfl)) rfl) rfl ?_
    exact FEND.out _ rfl rfl rfl rfl

/-- a part of a row of words, as a source -/
theorem part_src {own : Nat → Tag} {w W : World} {g c : Nat} {ws : List Int} {t : Tag} (h : Owned own w 3 1 (.slice (some ⟨g, 0, none⟩) ws.length c) ws.length (ints ws) t) (hb : Below w.heap.size w W) (i : Nat) (l : List Int) (hl : ∀ j, j < l.length → l[j]? = ws[i + j]?) : ∀ j u, (ints l)[j]? = some u → W.cell? ((⟨g, i, none⟩ : Addr).add j) = some u := by
  intro j u hu
  have hj : j < l.length := by have := (List.getElem?_eq_some_iff.1 hu).1; rwa [ints_length] at this
  rw [show (⟨g, i, none⟩ : Addr).add j = ⟨g, i + j, none⟩ by unfold Addr.add; split <;> simp_all]
  have e : (ints ws)[i + j]? = some u := by rw [← hu]; simp only [ints, List.getElem?_map, hl j hj]
  have hc := h.cell (i + j) e
  exact (hb.cell (p := ⟨g, i + j, none⟩) (World.block_lt_of_cell? w _ hc)).trans hc

set_option maxRecDepth 1000000 in
set_option maxHeartbeats 4000000 in
/-- the last words are taken -/
theorem taken {A : Array Value} {fuel : Int} {bM bR bO : Nat} {vR v19 v20 v21 v22 v23 v24 v25 v28 : Value} {w w1 wr : World} {own : Nat → Tag} {vT vD vC : Value} {G : List (Fr × Nat × Value)} {f : Fr} {b : Nat} {v : Value} {data told : List Int} {C : List (Rec × Value)} {R : Act → World → Prop} {K0 K2 : Act → World → Prop} {R0 : Ending → World → Prop} {r : Int × Int × St} {rm : List Fr} {n : Nat} (hs : Sl A fuel bM bR bO vR (.pointer (some ⟨b, 0, none⟩)) v20 v21 v22 (.int .i64 ((f.words.length - n : Nat) : Int)) v24 v25 v28) (h : RInv own w1 wr bO vR vT vD vC ((f, b, v) :: G) data told C) (hw : f.words.length ≤ 40) (hn : n ≤ f.words.length)
    (hR : ∀ A' v' vl W1 W2, Sl A' fuel bM bR bO vR (.pointer (some ⟨b, 0, none⟩)) v20 v21 v22 (.int .i64 ((f.words.length - n : Nat) : Int)) vl v25 v28 → Fresh wr W1 vl (f.words.drop (f.words.length - n)) → Fresh W1 W2 v' (f.words.take (f.words.length - n)) → R ⟨A', []⟩ (W2.setCell ⟨b, 10, none⟩ v')) :
    RInv.upto Tryd.prog 2 (RInv.behind 11 (RInv.inside (RInv.behind 1 (((Tryd.f15.body.map RInv.loops).getD []).getD 1 .skip)))) R (Exit.inBlock 3 (Exit.then K0 (Exit.inBlock 2 (Exit.then K2 (bodyPost Tryd.prog Tryd.f15 R0))))) ⟨A, []⟩ wr := by
  obtain ⟨u, rfl⟩ := fold hs
  have hO := h.rooms.1.2.1
  have hB := h.rooms.1.1
  have hl8 := h.rooms.1.2.2
  have cb : ∀ W, Below wr.heap.size wr W → W.cell? ⟨b, 10, none⟩ = some v ∧ W.frozen? ⟨b, 10, none⟩ = false := fun W hb => by
    have mv : Moves own own wr W (9, 9) := Moves.below hb (fun _ _ => rfl) _
    have hB2 := hB.moves mv (by simp)
    exact ⟨hB2.cell 10 (by simp [frCells, ints, hl8]), hB2.frozen 10⟩
  have hdl : (f.words.drop (f.words.length - n)).length = n := by rw [List.length_drop]; omega
  have htl : (f.words.take (f.words.length - n)).length = f.words.length - n := by rw [List.length_take]; omega
  have hdj : ∀ j, j < (f.words.drop (f.words.length - n)).length → (f.words.drop (f.words.length - n))[j]? = f.words[(f.words.length - n) + j]? := fun j _ => by rw [List.getElem?_drop]
  have htj : ∀ j, j < (f.words.take (f.words.length - n)).length → (f.words.take (f.words.length - n))[j]? = f.words[0 + j]? := fun j hj => by rw [List.getElem?_take, if_pos (by omega), Nat.zero_add]
  rcases hO.row.2 with ⟨rfl, h0⟩ | ⟨g, cw, cur, rfl, _, _, hcw, hcm, _⟩
  · have hn0 : n = 0 := by omega
    obtain ⟨c1, c2⟩ := cb wr (Below.refl _ _)
    have e0 : ((f.words.length - n : Nat) : Int) = 0 := by omega
    obtain ⟨ld, eld⟩ : ∃ x, x = f.words.drop (f.words.length - n) := ⟨_, rfl⟩
    obtain ⟨lt, elt⟩ : ∃ x, x = f.words.take (f.words.length - n) := ⟨_, rfl⟩
    rw [← eld] at hdl hR
    rw [← elt] at htl hR
    rw [e0] at hR ⊢
    have hdl0 : 0 = ld.length := by omega
    have htl0 : 0 = lt.length := by omega
    have CB : Hid _ := cb
    have HR : Hid _ := hR
    have HD : Hid (0 = ld.length) := hdl0
    have HT : Hid (0 = lt.length) := htl0
    clear hs h hB hO cb hR hdj htj eld elt hdl htl hdl0 htl0 e0
    conv => arg 3; whnf
    refine upto_seq ?_
    go_wp2_with (at_builtin; refine wpList_copied rfl _ (.tmp 214) rfl rfl none ld 0 0 rfl HD.out (by rw [← HD.out]; omega) (fun hp => absurd hp (by rw [← HD.out]; omega)) ?_; intro vl W1 hf1; obtain ⟨al, cl, rfl⟩ := hf1.form; obtain ⟨d1, d2⟩ := CB.out W1 hf1.below; have F1 : Hid _ := hf1; clear hf1)
    refine upto_seq ?_
    go_wp2_with (at_builtin; refine wpList_copied rfl _ (.tmp 222) rfl rfl none lt 0 0 rfl HT.out (by rw [← HT.out]; omega) (fun hp => absurd hp (by rw [← HT.out]; omega)) ?_; intro v' W2 hf2; obtain ⟨al2, cl2, rfl⟩ := hf2.form; obtain ⟨d3, d4⟩ := CB.out W2 (F1.out.below.trans (hf2.below.mono F1.out.below.size)); have F2 : Hid _ := hf2; clear hf2)
    exact HR.out _ _ _ _ _ ⟨rfl, rfl, rfl, rfl, rfl, rfl, rfl, rfl, rfl, rfl, rfl, rfl, rfl, rfl, rfl⟩ F1.out F2.out
  · obtain ⟨c1, c2⟩ := cb wr (Below.refl _ _)
    have s1 : 0 < (f.words.drop (f.words.length - n)).length → ∃ ad, (some ⟨g, f.words.length - n, none⟩ : Option Addr) = some ad ∧ ∀ j u, (ints (f.words.drop (f.words.length - n)))[j]? = some u → wr.cell? (ad.add j) = some u := fun _ => ⟨_, rfl, part_src hO (Below.refl _ _) _ _ hdj⟩
    have s2 : ∀ W, Below wr.heap.size wr W → 0 < (f.words.take (f.words.length - n)).length → ∃ ad, (some ⟨g, 0, none⟩ : Option Addr) = some ad ∧ ∀ j u, (ints (f.words.take (f.words.length - n)))[j]? = some u → W.cell? (ad.add j) = some u := fun W hb _ => ⟨_, rfl, part_src hO hb 0 _ htj⟩
    obtain ⟨ld, eld⟩ : ∃ x, x = f.words.drop (f.words.length - n) := ⟨_, rfl⟩
    obtain ⟨lt, elt⟩ : ∃ x, x = f.words.take (f.words.length - n) := ⟨_, rfl⟩
    rw [← eld] at hdl hR s1
    rw [← elt] at htl hR s2
    obtain ⟨k, ek⟩ : ∃ x, x = f.words.length := ⟨_, rfl⟩
    rw [← ek] at hw hn hcw htl hR s1 cb c1 ⊢
    obtain ⟨m, em⟩ : ∃ x, x = k - n := ⟨_, rfl⟩
    rw [← em] at htl hR s1 ⊢
    have hmk : m ≤ k := by omega
    have h1I : (k : Int) ≤ 40 := by omega
    have h2I : (m : Int) ≤ k := by omega
    have h3I : (k : Int) ≤ cw := by omega
    have hcmI : (cw : Int) ≤ 9223372036854775807 := by have := hcm; unfold maxLen at this; omega
    have hdl0 : k - m = ld.length := by omega
    have CB : Hid _ := cb
    have HR : Hid _ := hR
    have s1' : 0 < ld.length → ∃ ad, (if cw = m then some (⟨g, 0, none⟩ : Addr) else some ⟨g, m, none⟩) = some ad ∧ ∀ j u, (ints ld)[j]? = some u → wr.cell? (ad.add j) = some u := fun hp => by rw [if_neg (by omega)]; exact s1 hp
    have S1 : Hid _ := s1'
    have S2 : Hid _ := s2
    have HD : Hid (k - m = ld.length) := hdl0
    have HT : Hid (m = lt.length) := htl.symm
    have HK : Hid (ld.length ≤ 40) := (by rw [← hdl0]; omega : ld.length ≤ 40)
    have HK2 : Hid (lt.length ≤ 40) := (by rw [htl]; omega : lt.length ≤ 40)
    clear hs h hB hO cb hR hdj htj eld elt hdl htl hdl0 s1 s1' s2 ek em hw hn hmk
    conv => arg 3; whnf
    refine upto_seq ?_
    go_wp2_with (at_builtin; refine wpList_copied rfl _ (.tmp 214) rfl rfl _ ld _ _ rfl HD.out (Nat.le_trans HK.out (by decide)) S1.out ?_; intro vl W1 hf1; obtain ⟨al, cl, rfl⟩ := hf1.form; obtain ⟨d1, d2⟩ := CB.out W1 hf1.below; have F1 : Hid _ := hf1; clear hf1)
    all_goals
      refine upto_seq ?_
      go_wp2_with (at_builtin; go_loud (refine wpList_copied rfl _ (.tmp 222) rfl rfl _ lt _ _ rfl HT.out (Nat.le_trans HK2.out (by decide)) (S2.out _ F1.out.below) ?_; intro v' W2 hf2; obtain ⟨al2, cl2, rfl⟩ := hf2.form; obtain ⟨d3, d4⟩ := CB.out W2 (F1.out.below.trans (hf2.below.mono F1.out.below.size)); have F2 : Hid _ := hf2; clear hf2))
      exact HR.out _ _ _ _ _ ⟨rfl, rfl, rfl, rfl, rfl, rfl, rfl, rfl, rfl, rfl, rfl, rfl, rfl, rfl, rfl⟩ F1.out F2.out
end Go.Proofs.YtmbbkabecipkaacDoor.RTake
