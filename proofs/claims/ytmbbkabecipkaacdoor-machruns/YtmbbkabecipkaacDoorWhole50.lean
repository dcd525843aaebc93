/-
  WHAT THE DOCUMENT'S ANSWER RunOf GIVES where it refuses nothing: what the plain machine gives.
  Conditions: the image's parts, the data and the words lie there.
-/
import Derived.Test.YtmbbkabecipkaacDoorWhole49
import Derived.Test.YtmbbkabecipkaacDoorWhole39
import Derived.Test.YtmbbkabecipkaacDoorWhole46
namespace Go.Proofs.YtmbbkabecipkaacDoor.RStart
open Go.RowKit Tab Go.Proofs.YtmbbkabecipkaacDoor.Check Lists Go.Proofs.YtmbbkabecipkaacDoor.Read Img RunBad RunNot Mach Own Go.Proofs.YtmbbkabecipkaacDoor.Inv RInv RSlot REnds MRun RPart RLoop RRound ActQ

/-- the first n numbers, as cells -/
def row (z : Nat → Int) (n : Nat) : List Value := (List.range n).map fun i => .int .i64 (z i)

theorem row_length (z : Nat → Int) (n : Nat) : (row z n).length = n := by simp [row]
theorem row_at (z : Nat → Int) (n i : Nat) (hi : i < n) : (row z n)[i]? = some (.int .i64 (z i)) := by simp [row, hi]
theorem row_one (z : Nat → Int) (n : Nat) : ∀ u ∈ row z n, u.oneCell' = true := by
  intro u hu
  simp only [row, List.mem_map] at hu
  obtain ⟨i, _, rfl⟩ := hu
  rfl
theorem row_cells {w : World} {bl off n : Nat} {z : Nat → Int} (h : ∀ j, j < n → w.cell? ⟨bl, off + j, none⟩ = some (.int .i64 (z j))) : ∀ j u, (row z n)[j]? = some u → w.cell? ((⟨bl, off, none⟩ : Addr).add j) = some u := by
  intro j u hu
  have hj : j < n := by
    have := (List.getElem?_eq_some_iff.1 hu).1
    rwa [row_length] at this
  rw [row_at z n j hj] at hu
  rw [Go.WideShapes.add_plain, h j hj]
  exact hu

theorem row_ints (data : List Int) : row (fun i => data.getD i 0) data.length = ints data := by
  apply List.ext_getElem?
  intro i
  by_cases hi : i < data.length
  · rw [row_at _ _ _ hi]
    simp [ints, List.getD_eq_getElem?_getD, List.getElem?_eq_getElem hi]
  · rw [List.getElem?_eq_none (by rw [row_length]; omega), List.getElem?_eq_none (by simp [ints]; omega)]

/-- whose the blocks are when the loop begins -/
def owns (a b c d : Nat) : Nat → Tag := fun i => if i < a then (0, 0) else if i = b then (1, 0) else if i = c then (8, 0) else if i = d then (3, 0) else (2, 0)

/-- the run as it lies there when the loop begins -/
theorem first_inv {w1 w3 w5 W : World} {vo : Option Addr} {vcap k pc : Nat} {data args : List Int} (hb3 : Below w1.heap.size w1 w3) (own3 : w3.ownsRow w1.heap.size 3 1 (.slice vo data.length vcap) data.length (ints data)) (hal : args.length ≤ 4)
    (hg5 : w5.heap[w3.heap.size + 1]? = some (.cells (splice [.int .i64 k, .int .i64 pc, .int .i64 0, .int .i64 0, .int .i64 0, .int .i64 0, .int .i64 0, .int .i64 0, .int .i64 0, .int .i64 0, .slice none 0 0, .int .i64 (-1)] 2 (ints args)).toArray 73 (0, 0)))
    (mv : ∀ own : Nat → Tag, Moves own own ((w3.alloc (.cells #[.int .i64 0, .int .i64 0, .slice none 0 0, .slice vo data.length vcap, .slice none 0 0] 41)).alloc (.cells #[.int .i64 k, .int .i64 pc, .int .i64 0, .int .i64 0, .int .i64 0, .int .i64 0, .int .i64 0, .int .i64 0, .int .i64 0, .int .i64 0, .slice none 0 0, .int .i64 (-1)] 73)) w5 (own (w3.heap.size + 1)))
    (e0 : W.os = w5.os) (e1 : W.tape = w5.tape) (e2 : W.output = w5.output) (e3 : W.heap = (w5.alloc (.cells #[.pointer (some ⟨w3.heap.size + 1, 0, none⟩)] 70)).heap) :
    RInv (owns w1.heap.size w3.heap.size (w3.heap.size + 1) w5.heap.size) w1 W w3.heap.size (.slice (some ⟨w5.heap.size, 0, none⟩) 1 1) (.slice none 0 0) (.slice vo data.length vcap) (.slice none 0 0) [({ part := k, pc := pc, locals := pad args, words := [], noted := none }, w3.heap.size + 1, .slice none 0 0)] data [] [] := by
  obtain ⟨own, eown⟩ : ∃ o, o = owns w1.heap.size w3.heap.size (w3.heap.size + 1) w5.heap.size := ⟨_, rfl⟩
  have m5 := mv own
  have hsz := hb3.size
  have hs5 := m5.size
  simp only [World.size_alloc] at hs5
  have t1 : own w3.heap.size = (1, 0) := by rw [eown, owns, if_neg (by omega), if_pos rfl]
  have t8 : own (w3.heap.size + 1) = (8, 0) := by rw [eown, owns, if_neg (by omega), if_neg (by omega), if_pos rfl]
  have t3 : own w5.heap.size = (3, 0) := by rw [eown, owns, if_neg (by omega), if_neg (by omega), if_neg (by omega), if_pos rfl]
  have t0 : ∀ i, i < w1.heap.size → own i = (0, 0) := fun i hi => by rw [eown, owns, if_pos hi]
  have t2 : ∀ i, w1.heap.size ≤ i → i < w3.heap.size → own i = (2, 0) := fun i hi hj => by rw [eown, owns, if_neg (by omega), if_neg (by omega), if_neg (by omega), if_neg (by omega)]
  rw [t8] at m5
  have m6 : Moves own own w5 W (3, 0) := ⟨e0, e1, e2, by rw [e3]; simp, fun i hi _ => by rw [e3]; exact Below.heap_alloc _ _ _ hi, fun _ _ => rfl⟩
  have mA : Moves own own w3 ((w3.alloc (.cells #[.int .i64 0, .int .i64 0, .slice none 0 0, .slice vo data.length vcap, .slice none 0 0] 41)).alloc (.cells #[.int .i64 k, .int .i64 pc, .int .i64 0, .int .i64 0, .int .i64 0, .int .i64 0, .int .i64 0, .int .i64 0, .int .i64 0, .int .i64 0, .slice none 0 0, .int .i64 (-1)] 73)) (8, 0) :=
    (Moves.alloc own w3 _ (8, 0)).trans (Moves.alloc own _ _ (8, 0))
  have mB := mA.trans m5
  rw [← eown]
  refine ⟨⟨?_, ?_, ?_, ?_, ?_⟩, ?_, ?_, ?_, Owned.nil _ _ _ _ _, Owned.nil _ _ _ _ _, ⟨⟨?_, Owned.nil _ _ _ _ _, ?_⟩, trivial⟩, fun k r v hk => by simp at hk⟩
  · exact (m6.os.trans mB.os).trans hb3.os
  · exact (m6.tape.trans mB.tape).trans hb3.tape
  · exact (m6.output.trans mB.output).trans hb3.output
  · exact Nat.le_trans hsz (Nat.le_trans mB.size m6.size)
  · intro i hi
    refine ⟨t0 i hi, ?_⟩
    rw [m6.block i (by omega) (by rw [t0 i hi]; simp), mB.block i (by omega) (by rw [t0 i hi]; simp)]
    exact hb3.block i hi
  · have hO : Block own ((w3.alloc (.cells #[.int .i64 0, .int .i64 0, .slice none 0 0, .slice vo data.length vcap, .slice none 0 0] 41)).alloc (.cells #[.int .i64 k, .int .i64 pc, .int .i64 0, .int .i64 0, .int .i64 0, .int .i64 0, .int .i64 0, .int .i64 0, .int .i64 0, .int .i64 0, .slice none 0 0, .int .i64 (-1)] 73)) w3.heap.size #[.int .i64 0, .int .i64 0, .slice none 0 0, .slice vo data.length vcap, .slice none 0 0] 41 (1, 0) :=
      ⟨(Below.heap_alloc _ _ _ (by simp)).trans (heap_alloc_new _ _), t1⟩
    exact (hO.moves m5 (by simp)).moves m6 (by simp)
  · have hD : Owned own w3 3 1 (.slice vo data.length vcap) data.length (ints data) (2, 0) := by
      refine ⟨⟨own3.1, ?_⟩, fun g hg => t2 g (own3.lt g hg).1 (own3.lt g hg).2⟩
      rcases own3.2 with hn | ⟨g, cap, cur, hv, hb, rest⟩
      · exact .inl hn
      · exact .inr ⟨g, cap, cur, hv, by omega, rest⟩
    exact (hD.moves mB (by simp)).moves m6 (by simp)
  · refine ⟨⟨rfl, .inr ⟨w5.heap.size, 1, #[.pointer (some ⟨w3.heap.size + 1, 0, none⟩)], rfl, by omega, ?_, by simp, by unfold maxLen; omega, by simp, by simp [ptrs]⟩⟩, fun g hg => ?_⟩
    · rw [e3]
      exact heap_alloc_new _ _
    · simp only [Value.ownBlock, Option.some.injEq] at hg
      rw [← hg]
      exact t3
  · have e : splice [.int .i64 k, .int .i64 pc, .int .i64 0, .int .i64 0, .int .i64 0, .int .i64 0, .int .i64 0, .int .i64 0, .int .i64 0, .int .i64 0, .slice none 0 0, .int .i64 (-1)] 2 (ints args) = frCells { part := k, pc := pc, locals := pad args, words := [], noted := none } (.slice none 0 0) := RArmF.splice_pad k pc none args hal
    rw [e] at hg5
    have hR : Block own w5 (w3.heap.size + 1) (frCells { part := k, pc := pc, locals := pad args, words := [], noted := none } (.slice none 0 0)).toArray 73 (8, 0) := ⟨hg5, t8⟩
    exact hR.moves m6 (by simp)
  · simp [pad]

theorem append_none (w : World) (ty : TypeId) (i : TypeInfo) (hi : Tryd.prog.info? 3 = some i) (c : Nat) :
    (Builtin.append_ #[29, 29] ty #[.slice none 0 0, .slice none 0 c]).run Tryd.prog w = .ok (.slice none 0 0) w := by
  simp [Builtin.append_, Builtin.lenOf, Builtin.firstCells, run_underlying Tryd.underlying29, sizeOf, typeInfo, hi]

/-- 'append([]int(nil), data...)' -/
theorem wpList_copied {ops : Array Oper} {rest : List Oper} {o : Oper} {a : Act} {w : World} {Q : Exit → Act → World → Prop}
    (hg : o.guard = none) (s x : Operand) (hop : o.op = Op.call { callee := Callee.builtin Builtin.append, args := #[s, x], argTypes := #[29, 29] }) (hs : a.eval s = .slice none 0 0)
    (da : Option Addr) (dlen dcap : Nat) (z : Nat → Int) (hx : a.eval x = .slice da dlen dcap) (hd : Ints w da dlen z) (hmx : dlen ≤ maxLen) (hby : dlen * 8 ≤ 140737488355328) (base : Nat) (hbase : base ≤ w.heap.size)
    (h : ∀ v' w', w'.ownsRow base 3 1 v' dlen (row z dlen) → w.grownBy w' none → wpList Tryd.prog ops Q rest (a.put o.dst v') w') :
    wpList Tryd.prog ops Q (o :: rest) a w := by
  refine wpList_plain hg fun K hK => ?_
  obtain ⟨i0, hi, hz0, hz1, hz2⟩ := info_parts info3
  cases da with
  | none =>
    obtain rfl : dlen = 0 := by
      rcases Nat.eq_zero_or_pos dlen with h0 | h0
      · exact h0
      · obtain ⟨_, _, e, _⟩ := hd 0 h0
        cases e
    have hrun := append_none w o.type i0 hi dcap
    unfold Oper.wp
    simp [execOp, hop, resolve, invoke, builtin, hs, hx, hrun, Result.andThen]
    exact hK _ _ (h _ _ (World.ownsRow_nil _ _ _ _) (World.grownBy.refl _ _))
  | some ad =>
    refine wp_append_own w s x 29 hop base 3 i0 (.int .i64 0) 1 8 Tryd.underlying29 hi hz0 hz1 hz2 rfl (by decide) (.slice none 0 0) 0 [] hs (World.ownsRow_nil _ _ _ _) ad dlen dcap (row z dlen) hx (by rw [row_length]; omega) ?_ (row_one z dlen) (by omega) (by omega) hbase fun v' w' h2 h3 _ => hK _ _ (h v' w' (by simpa using h2) h3)
    intro j u hu
    have hj : j < dlen := by
      have := (List.getElem?_eq_some_iff.1 hu).1
      rwa [row_length] at this
    obtain ⟨bl, off, e, hc⟩ := hd j hj
    obtain rfl := Option.some.inj e
    exact row_cells hc j u hu

/-- a row of one's own is a slice -/
theorem own_slice {w : World} {B n size : Nat} {e : TypeId} {v : Value} {xs : List Value} (h : w.ownsRow B e size v n xs) : ∃ ao cap, v = .slice ao n cap := by
  rcases h.2 with ⟨rfl, h0⟩ | ⟨g, cap, cur, rfl, _⟩
  · exact ⟨none, 0, by rw [h0]⟩
  · exact ⟨_, _, rfl⟩

set_option maxRecDepth 100000 in
set_option maxHeartbeats 4000000 in
theorem begin_ (ao : Option Addr) (len cap : Nat) (hlen : len ≤ maxLen) (P : Nat → PartD) (da : Option Addr) (dlen dcap : Nat) (z : Nat → Int) (aa : Option Addr) (alen acap : Nat) (az : Nat → Int) (k j : Nat) (fuel : Int) (w : World) (hin : Parts w ao len P) (hd : Ints w da dlen z) (ha : Ints w aa alen az) (er : dataFault P len z dlen = 0)
    (hk : k < len) (hj : j < (P k).el) (hn : (alen : Int) = (P k).prs j) (hf0 : 0 ≤ fuel) (hf1 : fuel ≤ 100000) (hal : alen ≤ 4) (hw : first (fun i => wordFault (az i)) alen = 0) (R : Ending → World → Prop)
    (hR : ∀ (w1 w3 w5 W : World) (vo : Option Addr) (vcap : Nat) (A : Array Value) (K2 : Act → World → Prop) (v19 v20 v21 v22 v23 v24 v25 v28 : Value), Below w.heap.size w w1 → w1.cell? ⟨w.heap.size, 0, none⟩ = some (.slice ao len cap) → w1.heap[w.heap.size + 1]? = some (.cells zero 41 (0, 0)) → Below w1.heap.size w1 w3 → w3.ownsRow w1.heap.size 3 1 (.slice vo dlen vcap) dlen (row z dlen) →
      w5.heap[w3.heap.size + 1]? = some (.cells (splice [.int .i64 k, .int .i64 ((P k).ats j), .int .i64 0, .int .i64 0, .int .i64 0, .int .i64 0, .int .i64 0, .int .i64 0, .int .i64 0, .int .i64 0, .slice none 0 0, .int .i64 (-1)] 2 (row az alen)).toArray 73 (0, 0)) →
      (∀ own : Nat → Tag, Moves own own ((w3.alloc (.cells #[.int .i64 0, .int .i64 0, .slice none 0 0, .slice vo dlen vcap, .slice none 0 0] 41)).alloc (.cells #[.int .i64 k, .int .i64 ((P k).ats j), .int .i64 0, .int .i64 0, .int .i64 0, .int .i64 0, .int .i64 0, .int .i64 0, .int .i64 0, .int .i64 0, .slice none 0 0, .int .i64 (-1)] 73)) w5 (own (w3.heap.size + 1))) →
      W.os = w5.os → W.tape = w5.tape → W.output = w5.output → W.heap = (w5.alloc (.cells #[.pointer (some ⟨w3.heap.size + 1, 0, none⟩)] 70)).heap →
      Sl A fuel w.heap.size (w.heap.size + 1) w3.heap.size (.slice (some ⟨w5.heap.size, 0, none⟩) 1 1) v19 v20 v21 v22 v23 v24 v25 v28 → Code.wp Tryd.prog (.loop (((Tryd.f15.body.map RInv.loops).getD []).getD 1 .skip)) (Exit.inBlock 2 (Exit.then K2 (bodyPost Tryd.prog Tryd.f15 R))) ⟨A, []⟩ W) :
    Calls Tryd.prog 15 #[.agg #[.slice ao len cap], .slice da dlen dcap, .int .i64 k, .int .i64 j, .slice aa alen acap, .int .i64 fuel] w R := by
  have k8 := RunNot.begun ao len cap hlen P da dlen dcap z w hin hd er
  have h5 : (len : Int) ≤ 5 := by have := (imageFault_zero (dataFault_zero er).1).1; omega
  have hsz := partFault_sizes (first_zero (imageFault_zero (dataFault_zero er).1).2 k hk)
  have hel : ((P k).el : Int) ≤ 8 := by omega
  have hkI : (k : Int) < len := by omega
  have keep : ∀ w', Below w.heap.size w w' → Parts w' ao len P := fun w' hb => Parts_below hin hb
  have keepA : ∀ w', Below w.heap.size w w' → Ints w' aa alen az := fun w' hb => Ints_below ha hb
  obtain ⟨ea, eea⟩ : ∃ x, x = (P k).ea := ⟨_, rfl⟩
  obtain ⟨el, eel⟩ : ∃ x, x = (P k).el := ⟨_, rfl⟩
  obtain ⟨ec, eec⟩ : ∃ x, x = (P k).ec := ⟨_, rfl⟩
  rw [← eel] at hel
  have place : ∀ w', Below w.heap.size w w' → ∃ bl off, ao = some ⟨bl, off, none⟩ ∧ w'.cell? ⟨bl, off + k * 4 + 1, none⟩ = some (.slice ea el ec) := by
    intro w' hb
    obtain ⟨bl, off, e, _, _, t1, _, _⟩ := Parts_at (keep w' hb) hk
    rw [← eea, ← eel, ← eec] at t1
    exact ⟨bl, off, e, t1⟩
  obtain ⟨pr, epr⟩ : ∃ x, x = (P k).prs j := ⟨_, rfl⟩
  have hjI : (j : Int) < el := by omega
  have spot : ∀ w', Below w.heap.size w w' → ∃ bl off, ea = some ⟨bl, off, none⟩ ∧ w'.cell? ⟨bl, off + j * 2 + 1, none⟩ = some (.int .i64 pr) := by
    intro w' hb
    obtain ⟨bl, off, e, _, t1⟩ := (keep w' hb k hk).2.2 j (by omega)
    rw [← epr] at t1
    exact ⟨bl, off, by rw [eea]; exact e, t1⟩
  rw [← epr] at hn
  subst hn
  obtain ⟨f, ef⟩ : ∃ f : Nat → Int, f = fun i => wordFault (az i) := ⟨_, rfl⟩
  rw [← ef] at hw
  have HW : Hid (first f alen = 0) := hw
  have hfw : ∀ i, Hid (f i = wordFault (az i)) := fun i => by rw [ef]; exact (rfl : wordFault (az i) = _)
  have halI : (alen : Int) ≤ 4 := by omega
  have hdl : dlen ≤ 250 := by have := inside er hk; omega
  have keepD : ∀ w', Below w.heap.size w w' → Ints w' da dlen z := fun w' hb => Ints_below hd hb
  obtain ⟨at_, eat⟩ : ∃ x, x = (P k).ats j := ⟨_, rfl⟩
  have spot2 : ∀ w', Below w.heap.size w w' → ∃ bl off, ea = some ⟨bl, off, none⟩ ∧ w'.cell? ⟨bl, off + j * 2, none⟩ = some (.int .i64 at_) := by
    intro w' hb
    obtain ⟨bl, off, e, t0, _⟩ := (keep w' hb k hk).2.2 j (by omega)
    rw [← eat] at t0
    exact ⟨bl, off, by rw [eea]; exact e, t0⟩
  rw [← eat] at hR
  have HR : Hid _ := hR
  clear eat hR
  clear eea eel eec keep epr er hin hd hlen ha ef hw hsz
  go_enter Tryd.func15, Tryd.ntmps15
  go_wp2_with (first
    | (go_at_call 26; refine k8.mono ?_; rintro e w1 ⟨rfl, hb2, q0, hz1⟩; have HZ1 : Hid _ := hz1; have HQ0 : Hid _ := q0; clear hz1; obtain ⟨bl, off, rfl, t1⟩ := place _ hb2; obtain ⟨bl2, off2, rfl, t2⟩ := spot _ hb2)
    | (go_at_call 27; refine (isIn_yes _ _ _ _ (by omega) (by omega)).mono ?_; rintro e w1 ⟨rfl, rfl⟩))
  have hA1 := keepA _ hb2
  go_loop [14, 15] (fun e i => ∃ k : Nat, k ≤ alen ∧ e = .int .i64 0 ∧ i = .int .i64 k) (fun _ i => alen - (intOf i).toNat)
  case atStart => exact ⟨0, Nat.zero_le _, rfl, rfl⟩
  case round =>
    obtain ⟨m, hm, rfl, rfl⟩ := hrel
    by_cases hml : m < alen
    · obtain ⟨bl3, off3, rfl, t⟩ := hA1 m hml
      have s0 := t m hml
      have hx0 : f m = 0 := first_zero HW.out m hml
      obtain ⟨x, ex⟩ : ∃ x, x = az m := ⟨_, rfl⟩
      have hx : 0 ≤ x ∧ x ≤ 65535 := by
        rw [(hfw m).out, ← ex, wordFault] at hx0
        split at hx0
        · assumption
        · cases hx0
      rw [← ex] at s0
      have hmI : (m : Int) < alen := by omega
      clear ex t hA1 keepA hfw hx0
      go_wp2_with (go_at_call 28; refine (isWord _ _).mono ?_; rintro e w1 ⟨rfl, rfl⟩)
      go_round
      case rel => exact ⟨m + 1, by omega, rfl, by go_num⟩
      case measure => simp [intOf]; omega
    · obtain rfl : m = alen := by omega
      clear hfw
      have hd2 := keepD _ hb2
      have lt0 := World.block_lt_of_cell? w1 _ q0
      have facts : ∀ w', Below w1.heap.size w1 w' → w'.cell? ⟨w.heap.size, 0, none⟩ = some (.slice (some ⟨bl, off, none⟩) len cap) ∧ w'.cell? ⟨bl, off + k * 4 + 1, none⟩ = some (.slice (some ⟨bl2, off2, none⟩) el ec) ∧ w'.cell? ⟨bl2, off2 + j * 2, none⟩ = some (.int .i64 at_) := by
        intro w' hb
        obtain ⟨b', o', e', t'⟩ := spot2 _ hb2
        simp only [Option.some.injEq, Addr.mk.injEq, and_true] at e'
        obtain ⟨rfl, rfl⟩ := e'
        exact ⟨(hb.cell lt0).trans q0, (hb.cell (World.block_lt_of_cell? w1 _ t1)).trans t1, (hb.cell (World.block_lt_of_cell? w1 _ t')).trans t'⟩
      obtain ⟨i0, hi, hz0, hz1, hz2⟩ := info_parts info3
      have s1 : (Tryd.prog.info? 3).map (·.size) = some 1 := by rw [hi]; simp [hz1]
      obtain ⟨Rw, hRw⟩ : ∃ R, R = row az m := ⟨_, rfl⟩
      have RL : Hid (Rw.length = m) := by rw [hRw]; exact row_length az m
      have R1 : ∀ u ∈ Rw, u.oneCell' = true := by rw [hRw]; exact row_one az m
      have src : ∀ w', Below w1.heap.size w1 w' → 0 < Rw.length → ∃ ad, aa = some ad ∧ ∀ i u, Rw[i]? = some u → w'.cell? (ad.add i) = some u := by
        intro w' hb h0
        rw [RL.out] at h0
        obtain ⟨b', o', e', t'⟩ := hA1 0 h0
        exact ⟨_, e', by rw [hRw]; exact row_cells fun i hi => (hb.cell (World.block_lt_of_cell? w1 _ (t' i hi))).trans (t' i hi)⟩
      have HRw : Hid (Rw = row az m) := hRw
      clear hRw hA1 keepA
      go_wp2_with (first
        | (at_builtin; refine wpList_copied rfl _ (.tmp 100) rfl rfl da dlen dcap z rfl hd2 (by unfold maxLen; omega) (by omega) w1.heap.size (Nat.le_refl _) ?_; intro v3 w3 own3 grow3; have hb3 : Below w1.heap.size w1 w3 := (Below.refl _ _).grown grow3 (Nat.le_refl _) (by simp); obtain ⟨vo, vcap, rfl⟩ := own_slice own3; obtain ⟨f0, f1, f2⟩ := facts _ (hb3.alloc hb3.size (.cells #[.int .i64 0, .int .i64 0, .slice none 0 0, .slice vo dlen vcap, .slice none 0 0] 41)))
        | ((with_reducible show wpList _ _ _ ({ dst := some 121, op := _, type := _, pos := _, after := _, guard := _ } :: _) _ _); have hg4 := two_at w3 (.cells #[.int .i64 0, .int .i64 0, .slice none 0 0, .slice vo dlen vcap, .slice none 0 0] 41) (.cells #[.int .i64 k, .int .i64 at_, .int .i64 0, .int .i64 0, .int .i64 0, .int .i64 0, .int .i64 0, .int .i64 0, .int .i64 0, .int .i64 0, .slice none 0 0, .int .i64 (-1)] 73); have hb4 := (hb3.alloc hb3.size (.cells #[.int .i64 0, .int .i64 0, .slice none 0 0, .slice vo dlen vcap, .slice none 0 0] 41)).alloc (by have := hb3.size; simp; omega) (.cells #[.int .i64 k, .int .i64 at_, .int .i64 0, .int .i64 0, .int .i64 0, .int .i64 0, .int .i64 0, .int .i64 0, .int .i64 0, .int .i64 0, .slice none 0 0, .int .i64 (-1)] 73); refine RNote.wpList_copy_block rfl (.tmp 119) (.tmp 120) 29 29 rfl 3 Tryd.underlying29 s1 _ _ 8 8 m acap rfl rfl (w3.heap.size + 1) 2 [.int .i64 k, .int .i64 at_, .int .i64 0, .int .i64 0, .int .i64 0, .int .i64 0, .int .i64 0, .int .i64 0, .int .i64 0, .int .i64 0, .slice none 0 0, .int .i64 (-1)] 73 hg4 Rw (by rw [RL.out]; exact (Nat.min_eq_left (by omega)).symm) (fun h0 => ⟨rfl, src _ hb4 h0⟩) (by rw [RL.out]; simp; omega) R1 ?_; intro w5 hg5 mv5; have HG5 : Hid _ := hg5; have MV5 : Hid _ := mv5; clear hg5 mv5))
      have hg := HG5.out
      rw [HRw.out] at hg
      exact HR.out w1 w3 w5 _ vo vcap _ _ _ _ _ _ _ _ _ _ hb2 HQ0.out HZ1.out hb3 own3 hg MV5.out rfl rfl rfl rfl ⟨rfl, rfl, rfl, rfl, rfl, rfl, rfl, rfl, rfl, rfl, rfl, rfl, rfl, rfl, rfl⟩

/-- what is known of an image that may be, and of where it lies -/
theorem rsure {w w1 : World} {bM : Nat} {ao : Option Addr} {len cap dlen : Nat} {P : Nat → PartD} {z : Nat → Int} (hin : Parts w ao len P) (hb : Below w.heap.size w w1) (hm : w1.cell? ⟨bM, 0, none⟩ = some (.slice ao len cap)) (er : dataFault P len z dlen = 0) : RSure w1 bM ao len cap dlen P := by
  have hi := imageFault_zero (dataFault_zero er).1
  have hp := fun k hk => MCheck.part_sure (first_zero hi.2 k hk)
  exact ⟨fun w' h => ⟨Parts_below hin (hb.trans (h.mono hb.size)), (h.cell (p := ⟨bM, 0, none⟩) (World.block_lt_of_cell? w1 _ hm)).trans hm⟩, hi.1, fun k hk => (hp k hk).2.1, fun k hk => (hp k hk).1, fun k hk j hj => first_zero (hp k hk).2.2.1 j hj, fun k hk => ⟨(inside er hk).1, (inside er hk).2.1⟩, fun k hk j hj => MCheck.entry_sure (first_zero (hp k hk).2.2.2 j hj)⟩

theorem runOf (ao : Option Addr) (len cap : Nat) (hlen : len ≤ maxLen) (P : Nat → PartD) (da : Option Addr) (data : List Int) (dcap : Nat) (aa : Option Addr) (args : List Int) (acap : Nat) (k j fuel pc : Nat) (w : World) (hin : Parts w ao len P) (hd : Ints w da data.length (fun i => data.getD i 0)) (ha : Ints w aa args.length (fun i => args.getD i 0))
    (er : dataFault P len (fun i => data.getD i 0) data.length = 0) (hk : k < len) (hj : j < (P k).el) (hn : (args.length : Int) = (P k).prs j) (hf : fuel ≤ 100000) (hw : first (fun i => wordFault (args.getD i 0)) args.length = 0) (hpc : (P k).ats j = pc) :
    Calls Tryd.prog 15 #[.agg #[.slice ao len cap], .slice da data.length dcap, .int .i64 k, .int .i64 j, .slice aa args.length acap, .int .i64 fuel] w (Gave w (run wdoT P len fuel ⟨[⟨k, pc, pad args, [], none⟩], data, [], []⟩)) := by
  have hp := MCheck.part_sure (first_zero (imageFault_zero (dataFault_zero er).1).2 k hk)
  have hen := MCheck.entry_sure (first_zero hp.2.2.2 j hj)
  have hal : args.length ≤ 4 := by omega
  have hcl := hp.1
  refine begin_ ao len cap hlen P da data.length dcap (fun i => data.getD i 0) aa args.length acap (fun i => args.getD i 0) k j fuel w hin hd ha er hk hj hn (by omega) (by omega) hal hw _ ?_
  intro w1 w3 w5 W vo vcap A K2 v19 v20 v21 v22 v23 v24 v25 v28 hb hm hz hb3 own3 hg5 mv e0 e1 e2 e3 hs
  rw [row_ints] at own3 hg5
  rw [hpc] at hg5 mv
  have hinv := first_inv hb3 own3 hal hg5 mv e0 e1 e2 e3
  have hfit : Fit len ⟨[⟨k, pc, pad args, [], none⟩], data, [], []⟩ := ⟨by simp, by simp, fun f hf => by simp at hf; subst hf; exact ⟨hk, by simp, fun q e => by cases e⟩, by simp, by simp⟩
  have hlt : w.heap.size + 1 < w1.heap.size := (Array.getElem?_eq_some_iff.1 hz).1
  refine loop (w := w) (w1 := w1) (n := fuel) ⟨⟨A, _, _, v19, v20, v21, v22, v23, v24, v25, v28, _, _, _, _, ⟨[⟨k, pc, pad args, [], none⟩], data, [], []⟩, [], rfl, hs, hinv, rfl, rfl, hf, hfit, ?_, rfl, rfl⟩⟩ (rsure hin hb hm er) ?_ ⟨hb, by omega, hlt, hz⟩ (inside er hk).2.2
  · intro f hf
    simp at hf
    subst hf
    show pc ≤ 1200
    omega
  · intro i hi
    have h6 := partFault_zero (first_zero (imageFault_zero (dataFault_zero er).1).2 i hi)
    have h7 := (inside er hi).1
    omega
end Go.Proofs.YtmbbkabecipkaacDoor.RStart
