/-
  RunOf, A ROUND: what an instruction does: a Gate that goes through.
  Conditions: each theorem's own hypotheses.
-/
import Derived.Test.YtmbbkabecipkaacDoorWhole39
namespace Go.Proofs.YtmbbkabecipkaacDoor.RArmK
open RArmF Go.RowKit Tab Go.Proofs.YtmbbkabecipkaacDoor.Check Lists Go.Proofs.YtmbbkabecipkaacDoor.Read Img Mach Own Go.Proofs.YtmbbkabecipkaacDoor.Inv RunBad RunNot RInv RSlot REnds Take MRun RPart RTake RFinish
set_option linter.unusedVariables false

theorem setCell_drewN (w : World) (n : Nat) (a : Addr) (v : Value) : (w.drewN n).setCell a v = (w.setCell a v).drewN n := rfl
attribute [local go_sem] setCell_drewN

set_option maxRecDepth 1000000 in
set_option maxHeartbeats 4000000 in
/-- Gate, that goes through, where no call is noted any more -/
theorem gate_full {A : Array Value} {fuel : Int} {bM bR bO : Nat} {vR v19 v20 v21 v22 v23 v24 v25 v28 : Value} {w w1 wr : World} {own : Nat → Tag} {vT vD vC : Value} {G : List (Fr × Nat × Value)} {f : Fr} {b : Nat} {v : Value} {data told : List Int} {C : List (Rec × Value)} {R : Act → World → Prop} {K0 K2 : Act → World → Prop} {R0 : Ending → World → Prop} {r : Int × Int × St} {rm : List Fr} {bp bi gl cl_ : Nat} {gR cR m n : Nat} {al : Option Addr} {a_ b_ c_ : Int} (hs : Sl A fuel bM bR bO (.slice (some ⟨gR, 0, none⟩) m cR) (.pointer (some ⟨b, 0, none⟩)) (.pointer (some ⟨bp, 0, none⟩)) (.pointer (some ⟨bi, 0, none⟩)) v22 v23 (.slice al n cl_) v25 v28) (hbi : Block own wr bi #[.int .i64 12, .int .i64 a_, .int .i64 b_, .int .i64 c_] 27 (12, 0)) {q k i_ ta : Nat} (ha : a_ = k) (hbq : b_ = i_) (hq : wr.cell? ⟨b, 0, none⟩ = some (.int .i64 q)) {len cap bl off : Nat} (hM : wr.cell? ⟨bM, 0, none⟩ = some (.slice (some ⟨bl, off, none⟩) len cap)) (hlen : len ≤ 5) (hk : k < len) {b2 o2 el ec : Nat} (hE : wr.cell? ⟨bl, off + k * 4 + 1, none⟩ = some (.slice (some ⟨b2, o2, none⟩) el ec)) (hel : el ≤ 8) (hi_ : i_ < el) (hP0 : wr.cell? ⟨b2, o2 + i_ * 2, none⟩ = some (.int .i64 ta)) (hP : wr.cell? ⟨b2, o2 + i_ * 2 + 1, none⟩ = some (.int .i64 c_)) (hC : C.length = 100) {l : List Int} (hn : n = l.length) (hl4 : l.length ≤ 4) (hsrc : 0 < l.length → ∃ ad : Addr, al = some ad ∧ ad.block < wr.heap.size ∧ ∀ j u, (ints l)[j]? = some u → wr.cell? (ad.add j) = some u) (hm : m < 20) (hmG : m = G.length) (h : RInv own w1 wr bO (.slice (some ⟨gR, 0, none⟩) m cR) vT vD vC G data told C)
    (hR : ∀ A' own' W v' bg, Sl A' fuel bM bR bO v' (.pointer (some ⟨b, 0, none⟩)) (.pointer (some ⟨bp, 0, none⟩)) (.pointer (some ⟨bi, 0, none⟩)) v22 v23 (.slice al n cl_) (.slice none 0 0) (.pointer (some ⟨bg, 0, none⟩)) → RInv own' w1 W bO v' vT vD vC (({ part := k, pc := ta, locals := pad l, words := [], noted := none }, bg, .slice none 0 0) :: G) data told C → R ⟨A', []⟩ W) :
    RInv.upto Tryd.prog 2 (RInv.behind 13 (RInv.inside (RInv.behind 1 (((Tryd.f15.body.map RInv.loops).getD []).getD 1 .skip)))) R (Exit.inBlock 3 (Exit.then K0 (Exit.inBlock 2 (Exit.then K2 (bodyPost Tryd.prog Tryd.f15 R0))))) ⟨A, []⟩ wr := by
  obtain ⟨u, rfl⟩ := fold hs
  have i0 := hbi.cell 0 (v := .int .i64 12) rfl
  have i1 := hbi.cell 1 (v := .int .i64 a_) rfl
  subst ha
  subst hbq
  have i2 := hbi.cell 2 (v := .int .i64 (i_ : Int)) rfl
  have i3 := hbi.cell 3 (v := .int .i64 c_) rfl
  have hbo : bO < wr.heap.size := h.out.lt
  have hbo'' : bO ≠ wr.heap.size := by omega
  have uc : ∀ (o : Obj) (j : Nat), (wr.alloc o).cell? ⟨bO, j, none⟩ = wr.cell? ⟨bO, j, none⟩ := fun o j => World.cell?_alloc_old wr o ⟨bO, j, none⟩ hbo''
  have hbil : bi ≠ wr.heap.size := Nat.ne_of_lt hbi.lt
  have hbml : bM ≠ wr.heap.size := Nat.ne_of_lt (World.block_lt_of_cell? wr _ hM)
  have ub : ∀ (o : Obj) (j : Nat), (wr.alloc o).cell? ⟨bi, j, none⟩ = wr.cell? ⟨bi, j, none⟩ := fun o j => World.cell?_alloc_old wr o ⟨bi, j, none⟩ hbil
  have um : ∀ (o : Obj) (j : Nat), (wr.alloc o).cell? ⟨bM, j, none⟩ = wr.cell? ⟨bM, j, none⟩ := fun o j => World.cell?_alloc_old wr o ⟨bM, j, none⟩ hbml
  have hlI : (len : Int) ≤ 5 := by omega
  have hkI : (k : Int) < len := by omega
  have hbll : bl ≠ wr.heap.size := Nat.ne_of_lt (World.block_lt_of_cell? wr _ hE)
  have ul : ∀ (o : Obj) (j : Nat), (wr.alloc o).cell? ⟨bl, j, none⟩ = wr.cell? ⟨bl, j, none⟩ := fun o j => World.cell?_alloc_old wr o ⟨bl, j, none⟩ hbll
  have heI : (el : Int) ≤ 8 := by omega
  have dk : decide (len ≤ k) = false := decide_eq_false (by omega)
  have hiI : (i_ : Int) < el := by omega
  have di : decide (el ≤ i_) = false := decide_eq_false (by omega)
  have hb2l : b2 ≠ wr.heap.size := Nat.ne_of_lt (World.block_lt_of_cell? wr _ hP)
  have ul2 : ∀ (o : Obj) (j : Nat), (wr.alloc o).cell? ⟨b2, j, none⟩ = wr.cell? ⟨b2, j, none⟩ := fun o j => World.cell?_alloc_old wr o ⟨b2, j, none⟩ hb2l
  obtain ⟨aC, xC, eC⟩ := owned_form h.calls
  have c4 : wr.cell? ⟨bO, 4, none⟩ = some (.slice aC 100 xC) := by rw [← hC, ← eC]; exact h.out.cell 4 rfl
  clear eC
  obtain ⟨j3, hi3, hz30, hz31, hz32⟩ := info_parts info3
  have s1 : (Tryd.prog.info? 3).map (·.size) = some 1 := by rw [hi3]; simp [hz31]
  obtain ⟨j0, hi, hz0, hz1, hz2⟩ := info_parts info70
  have n1 := World.new_ne wr _ hq
  have n2 := World.new_ne wr _ i1
  have n3 := World.new_ne wr _ i0
  have bel : ∀ W : World, W.os = wr.os → W.tape = wr.tape → W.output = wr.output → W.heap = (wr.alloc (.cells #[.int .i64 k, .int .i64 ta, .int .i64 0, .int .i64 0, .int .i64 0, .int .i64 0, .int .i64 0, .int .i64 0, .int .i64 0, .int .i64 0, .slice none 0 0, .int .i64 (-1)] 73)).heap → Below wr.heap.size wr W := fun W e0 e1 e2 e3 => ⟨e0, e1, e2, by rw [e3]; simp, fun k hk => by rw [e3]; exact Below.heap_alloc _ _ _ hk⟩
  have hgw : ∀ W : World, W.heap = (wr.alloc (.cells #[.int .i64 k, .int .i64 ta, .int .i64 0, .int .i64 0, .int .i64 0, .int .i64 0, .int .i64 0, .int .i64 0, .int .i64 0, .int .i64 0, .slice none 0 0, .int .i64 (-1)] 73)).heap → W.heap[wr.heap.size]? = some (.cells ([.int .i64 k, .int .i64 ta, .int .i64 0, .int .i64 0, .int .i64 0, .int .i64 0, .int .i64 0, .int .i64 0, .int .i64 0, .int .i64 0, .slice none 0 0, .int .i64 (-1)] : List Value).toArray 73 (0, 0)) := fun W e3 => by rw [e3]; exact heap_alloc_new _ _
  have src : ∀ W, Below wr.heap.size wr W → 0 < (ints l).length → ∃ ad, al = some ad ∧ ∀ j u, (ints l)[j]? = some u → W.cell? (ad.add j) = some u := fun W hb hp => by
    obtain ⟨ad, e, hlt, hc⟩ := hsrc (by rwa [ints_length] at hp)
    exact ⟨ad, e, fun j u hu => (World.cell?_of_block (by rw [Loud.add_block]; exact hb.block _ hlt)).trans (hc j u hu)⟩
  have key : ∀ A' w5 W g' c', Sl A' fuel bM bR bO (.slice (some ⟨g', 0, none⟩) (m + 1) c') (.pointer (some ⟨b, 0, none⟩)) (.pointer (some ⟨bp, 0, none⟩)) (.pointer (some ⟨bi, 0, none⟩)) v22 v23 (.slice al n cl_) (.slice none 0 0) (.pointer (some ⟨wr.heap.size, 0, none⟩)) → Below wr.heap.size wr w5 → w5.heap[wr.heap.size]? = some (.cells (splice [.int .i64 k, .int .i64 ta, .int .i64 0, .int .i64 0, .int .i64 0, .int .i64 0, .int .i64 0, .int .i64 0, .int .i64 0, .int .i64 0, .slice none 0 0, .int .i64 (-1)] 2 (ints l)).toArray 73 (0, 0)) → (w5.alloc (.cells #[.pointer (some ⟨wr.heap.size, 0, none⟩)] 70)).grownBy W (Value.slice (some ⟨gR, 0, none⟩) m cR).ownBlock → ((Value.slice (some ⟨g', 0, none⟩) (m + 1) c').ownBlock = (Value.slice (some ⟨gR, 0, none⟩) m cR).ownBlock ∨ (Value.slice (some ⟨g', 0, none⟩) (m + 1) c').ownBlock = some (w5.alloc (.cells #[.pointer (some ⟨wr.heap.size, 0, none⟩)] 70)).heap.size) → W.ownsRow 0 70 1 (.slice (some ⟨g', 0, none⟩) (m + 1) c') (m + 1) (ptrs G ++ [.pointer (some ⟨wr.heap.size, 0, none⟩)]) → R ⟨A', []⟩ W := by
    intro A' w5 W g' c' hs' hb hg5 hg hn' ho
    rw [show splice [.int .i64 k, .int .i64 ta, .int .i64 0, .int .i64 0, .int .i64 0, .int .i64 0, .int .i64 0, .int .i64 0, .int .i64 0, .int .i64 0, .slice none 0 0, .int .i64 (-1)] 2 (ints l) = frCells { part := k, pc := ta, locals := pad l, words := [], noted := none } (.slice none 0 0) from splice_pad k ta none l hl4] at hg5
    rw [hmG] at hg hn' ho
    have m5 : Moves own (also own wr.heap.size (8, G.length)) wr w5 (9, 9) := Moves.below hb (fun k hk => by unfold also; rw [if_neg (by omega)]) _
    have m6 := Moves.alloc (also own wr.heap.size (8, G.length)) w5 (.cells #[.pointer (some ⟨wr.heap.size, 0, none⟩)] 70) (9, 9)
    rw [hmG] at h
    have h5 := (h.moves (n := 0) (m := 9) m5).moves (n := 0) (m := 9) m6
    have hB : Block (also own wr.heap.size (8, G.length)) w5 wr.heap.size _ 73 (8, G.length) := ⟨hg5, by simp [also]⟩
    rw [hmG] at hs'
    exact hR A' _ W _ wr.heap.size (by rw [← hmG] at hs' ⊢; exact hs') (h5.push (hB.moves m6 (by simp)) rfl (by simp [pad]) hg hn' ho)
  have row : ∀ w5, Below wr.heap.size wr w5 → (w5.alloc (.cells #[.pointer (some ⟨wr.heap.size, 0, none⟩)] 70)).ownsRow 0 70 1 (.slice (some ⟨gR, 0, none⟩) m cR) m (ptrs G) := fun w5 hb => by
    have h5 := (h.moves (n := 0) (m := 9) (Moves.below (own' := own) hb (fun _ _ => rfl) (9, 9))).moves (n := 0) (m := 9) (Moves.alloc own w5 (.cells #[.pointer (some ⟨wr.heap.size, 0, none⟩)] 70) (9, 9))
    have := h5.row.row
    rwa [← hmG] at this
  have hmI : (m : Int) < 20 := by omega
  obtain ⟨X, eX⟩ : ∃ X, X = ints l := ⟨_, rfl⟩
  have HXL : Hid (X.length = n) := by rw [eX, ints_length, hn]; exact (rfl : _ = _)
  have ONE : Hid (∀ u ∈ X, u.oneCell' = true) := by rw [eX]; exact ints_oneCell .i64 l
  have hnI : (n : Int) ≤ 4 := by omega
  have HN4 : Hid (n ≤ 4) := (by omega : n ≤ 4)
  rw [← eX] at src key
  have BEL : Hid _ := bel
  have HGW : Hid _ := hgw
  have SRC : Hid _ := src
  have KEY : Hid _ := key
  have ROW : Hid _ := row
  have NEW : Hid (∀ w5 : World, ∀ j u, ([.pointer (some ⟨wr.heap.size, 0, none⟩)] : List Value)[j]? = some u → (w5.alloc (.cells #[.pointer (some ⟨wr.heap.size, 0, none⟩)] 70)).cell? ((⟨w5.heap.size, 0, none⟩ : Addr).add j) = some u) := fun w5 => Enter.twelve_new (w := w5) (L := [.pointer (some ⟨wr.heap.size, 0, none⟩)]) (t := 70)
  clear hlen hk hel hi_ hC
  clear hs hbi h hR bel hgw src key row hsrc hn hl4 hmG eX
  conv => arg 3; whnf
  refine upto_seq ?_
  go_wp2
  refine upto_seq ?_
  go_wp2
  go_region_held3 (fun w' => w'.cell? ⟨b, 0, none⟩ = some (.int .i64 q) ∧ w'.cell? ⟨bi, 1, none⟩ = some (.int .i64 k) ∧ w'.cell? ⟨bi, 0, none⟩ = some (.int .i64 12)) (go_keep) (fail)
  all_goals
    go_wp2
    go_quiet (fail)
    go_wp2
    go_region_held3 (fun w' => w'.cell? ⟨bi, 1, none⟩ = some (.int .i64 k) ∧ w'.cell? ⟨bi, 2, none⟩ = some (.int .i64 i_) ∧ w'.cell? ⟨bM, 0, none⟩ = some (.slice (some ⟨bl, off, none⟩) len cap) ∧ w'.cell? ⟨bl, off + k * 4 + 1, none⟩ = some (.slice (some ⟨b2, o2, none⟩) el ec) ∧ w'.cell? ⟨b2, o2 + i_ * 2, none⟩ = some (.int .i64 ta)) (go_keep) (fail)
    all_goals
      go_wp2_with (first
        | ((with_reducible show wpList _ _ _ ({ dst := some 452, op := _, type := _, pos := _, after := _, guard := _ } :: _) _ _); go_loud (refine wpList_copy_splice rfl (.tmp 450) (.tmp 451) 29 29 rfl 3 Tryd.underlying29 s1 (some ⟨wr.heap.size, 2, none⟩) al 8 8 n cl_ rfl rfl wr.heap.size 2 [.int .i64 k, .int .i64 ta, .int .i64 0, .int .i64 0, .int .i64 0, .int .i64 0, .int .i64 0, .int .i64 0, .int .i64 0, .int .i64 0, .slice none 0 0, .int .i64 (-1)] 73 (HGW.out _ rfl) X (by rw [HXL.out]; exact (Nat.min_eq_left (show n ≤ 8 by have := HN4.out; omega)).symm) (fun hp => ⟨rfl, SRC.out _ (BEL.out _ rfl rfl rfl rfl) hp⟩) (by rw [HXL.out]; have := HN4.out; simp; omega) ONE.out wr.heap.size wr (BEL.out _ rfl rfl rfl rfl) (Nat.le_refl _) ?_; intro w5 hg5 hb5; have HG5 : Hid _ := hg5.out; have HB5 : Hid _ := hb5; clear hg5 hb5))
        | (at_builtin; go_loud (refine wpList_append_fresh _ rfl (.tmp 453) (.tmp 455) 74 rfl 0 70 j0 (.pointer none) 1 8 Tryd.underlying74 hi hz0 hz1 hz2 rfl (by decide) (.slice (some ⟨gR, 0, none⟩) m cR) m (ptrs G) rfl (ROW.out _ HB5.out) ⟨w5.heap.size, 0, none⟩ 1 1 (by decide) [.pointer (some ⟨wr.heap.size, 0, none⟩)] rfl rfl (NEW.out w5) (by simp [Value.oneCell']) (by unfold maxLen; omega) (by omega) (Nat.zero_le _) ?_; intro g' c' W ho hg hn; have HO : Hid _ := ho; have HG : Hid _ := hg; have HN : Hid _ := hn; clear ho hg hn)))
      exact KEY.out _ w5 _ _ _ ⟨rfl, rfl, rfl, rfl, rfl, rfl, rfl, rfl, rfl, rfl, rfl, rfl, rfl, rfl, rfl⟩ HB5.out HG5.out HG.out HN.out HO.out
end Go.Proofs.YtmbbkabecipkaacDoor.RArmK
