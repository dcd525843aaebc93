/-
  WHAT mach.noted GIVES.
  Conditions: the run lies there; the words that were taken.
-/
import Derived.Test.YtmbbkabecipkaacDoorWhole4
import Derived.BigRegion
import Derived.Deep.RegionHeld3
namespace Go.Proofs.YtmbbkabecipkaacDoor.Noted
open Go.RowKit Tab Go.Proofs.YtmbbkabecipkaacDoor.Check Lists Img Mach Own Go.Proofs.YtmbbkabecipkaacDoor.Inv Go.Proofs.YtmbbkabecipkaacDoor.Frame Take Go.Proofs.YtmbbkabecipkaacDoor.Went Go.Proofs.YtmbbkabecipkaacDoor.Entry

theorem info76 : (Tryd.prog.info? 76).map (fun i => (i.zero, i.size, i.bytes)) = some (some (.agg #[.int .i64 0, .int .i64 0, .int .i64 0, .slice none 0 0, .int .i64 0, .bool false, .int .i64 0]), 7, 72) := by kernel_rfl

theorem size76 : (Tryd.prog.info? 76).map (·.size) = some 7 := by kernel_rfl

theorem bel1 {B : Nat} {W0 w4 : World} (h : B ≤ W0.heap.size) (hb : Below W0.drew.heap.size W0.drew w4) : Below B W0 w4 := (Below.refl B W0).drew.trans (hb.mono h)
theorem bel2 {B : Nat} {W0 w4 : World} {o : Obj} (h : B ≤ W0.heap.size) (hb : Below (W0.alloc o).drew.heap.size (W0.alloc o).drew w4) : Below B W0 w4 := ((Below.refl B W0).alloc h o).drew.trans (hb.mono (by simp; omega))

theorem seven {B g : Nat} {W0 w : World} {v0 v1 v2 v3 v4 v5 v6 : Value} (hb : Below B W0 w) (h : B ≤ g) : Below B W0 (((((((w.setCell ⟨g, 0, none⟩ v0).setCell ⟨g, 1, none⟩ v1).setCell ⟨g, 2, none⟩ v2).setCell ⟨g, 3, none⟩ v3).setCell ⟨g, 4, none⟩ v4).setCell ⟨g, 5, none⟩ v5).setCell ⟨g, 6, none⟩ v6) :=
  by
  have e0 := hb.setCell (p := ⟨g, 0, none⟩) h v0
  have e1 := e0.setCell (p := ⟨g, 1, none⟩) h v1
  have e2 := e1.setCell (p := ⟨g, 2, none⟩) h v2
  have e3 := e2.setCell (p := ⟨g, 3, none⟩) h v3
  have e4 := e3.setCell (p := ⟨g, 4, none⟩) h v4
  have e5 := e4.setCell (p := ⟨g, 5, none⟩) h v5
  exact e5.setCell (p := ⟨g, 6, none⟩) h v6

theorem seven_heap {g : Nat} {w : World} {u0 u1 u2 u3 u4 u5 u6 v0 v1 v2 v3 v4 v5 v6 : Value} {t : TypeId} (h : w.heap[g]? = some (.cells #[u0, u1, u2, u3, u4, u5, u6] t (0, 0))) :
    (((((((w.setCell ⟨g, 0, none⟩ v0).setCell ⟨g, 1, none⟩ v1).setCell ⟨g, 2, none⟩ v2).setCell ⟨g, 3, none⟩ v3).setCell ⟨g, 4, none⟩ v4).setCell ⟨g, 5, none⟩ v5).setCell ⟨g, 6, none⟩ v6).heap[g]? = some (.cells #[v0, v1, v2, v3, v4, v5, v6] t (0, 0)) :=
  by
  have e0 := heap_setCell_same w g 0 _ t v0 h
  have e1 := heap_setCell_same _ g 1 _ t v1 e0
  have e2 := heap_setCell_same _ g 2 _ t v2 e1
  have e3 := heap_setCell_same _ g 3 _ t v3 e2
  have e4 := heap_setCell_same _ g 4 _ t v4 e3
  have e5 := heap_setCell_same _ g 5 _ t v5 e4
  rw [heap_setCell_same _ g 6 _ t v6 e5]
  simp only [List.setIfInBounds_toArray, List.set_cons_zero, List.set_cons_succ]

theorem row_base {B B' n c : Nat} {w : World} {g : Nat} {xs : List Value} (h : B' ≤ B) (hr : w.ownsRow B 3 1 (.slice (some ⟨g, 0, none⟩) n c) n xs) : w.ownsRow B' 3 1 (.slice (some ⟨g, 0, none⟩) n c) n xs :=
  ⟨hr.1, hr.2.imp id fun ⟨g, cap, cur, h1, h2, h3⟩ => ⟨g, cap, cur, h1, Nat.le_trans h h2, h3⟩⟩

theorem own_eq {X Y n c : Nat} {w : World} {xs : List Value} (e : X = Y) (h : w.ownsRow X 3 1 (.slice (some ⟨X, 0, none⟩) n c) n xs) : w.ownsRow Y 3 1 (.slice (some ⟨Y, 0, none⟩) n c) n xs := e ▸ h

theorem hown_lt {B n c : Nat} {w : World} {g : Nat} {xs : List Value} (hr : w.ownsRow B 3 1 (.slice (some ⟨g, 0, none⟩) n c) n xs) : g < w.heap.size := (hr.lt g rfl).2

theorem owns_set {B n c : Nat} {w : World} {g : Nat} {xs : List Value} {p : Addr} {v : Value} (hne : p.block ≠ g) (hr : w.ownsRow B 3 1 (.slice (some ⟨g, 0, none⟩) n c) n xs) : (w.setCell p v).ownsRow B 3 1 (.slice (some ⟨g, 0, none⟩) n c) n xs := by
  refine ⟨hr.1, ?_⟩
  rcases hr.2 with h | ⟨g', cap, cur, h1, h2, h3, h4⟩
  · exact .inl h
  · refine .inr ⟨g', cap, cur, h1, h2, ?_, h4⟩
    simp only [Value.slice.injEq, Option.some.injEq, Addr.mk.injEq, and_true, true_and] at h1
    obtain ⟨rfl, _⟩ := h1
    rw [Below.heap_setCell _ _ _ _ (fun e => hne e.symm)]
    exact h3

theorem seven_owns {B n c ga g : Nat} {w : World} {xs : List Value} {v0 v1 v2 v3 v4 v5 v6 : Value} (hne : g ≠ ga) (hr : w.ownsRow B 3 1 (.slice (some ⟨ga, 0, none⟩) n c) n xs) : (((((((w.setCell ⟨g, 0, none⟩ v0).setCell ⟨g, 1, none⟩ v1).setCell ⟨g, 2, none⟩ v2).setCell ⟨g, 3, none⟩ v3).setCell ⟨g, 4, none⟩ v4).setCell ⟨g, 5, none⟩ v5).setCell ⟨g, 6, none⟩ v6).ownsRow B 3 1 (.slice (some ⟨ga, 0, none⟩) n c) n xs := by
  have e0 := owns_set (p := ⟨g, 0, none⟩) (v := v0) hne hr
  have e1 := owns_set (p := ⟨g, 1, none⟩) (v := v1) hne e0
  have e2 := owns_set (p := ⟨g, 2, none⟩) (v := v2) hne e1
  have e3 := owns_set (p := ⟨g, 3, none⟩) (v := v3) hne e2
  have e4 := owns_set (p := ⟨g, 4, none⟩) (v := v4) hne e3
  have e5 := owns_set (p := ⟨g, 5, none⟩) (v := v5) hne e4
  exact owns_set (p := ⟨g, 6, none⟩) (v := v6) hne e5

section
variable {own : Nat → Tag} {w1 w w' : World} {R D g cap : Nat} {pS lS vF vT vC : Value} {fuel : Int} {f : Fr} {v : Value} {F : List (Fr × Value)} {l data told : List Int} {C : List (Rec × Value)}

theorem noted_full (by_ : Nat) (op a b c : Int) (tv : Value) (w : World) (R : Nat) (ao : Option Addr) (cp : Nat) (h : w.cell? ⟨R, 8, none⟩ = some (.slice ao 100 cp)) :
    Calls Tryd.prog 54 #[.pointer (some ⟨R, 0, none⟩), .int .i64 by_, .agg #[.int .i64 op, .int .i64 a, .int .i64 b, .int .i64 c], tv] w fun e w' => e = .returned (.int .i64 (-1)) ∧ Below w.heap.size w w' := by
  have hR := World.block_lt_of_cell? w _ h
  have u : ∀ o, (w.alloc o).cell? ⟨R, 8, none⟩ = some (.slice ao 100 cp) := fun o => (World.cell?_alloc_past o _ _ hR).trans h
  clear h
  go_enter Tryd.func54, Tryd.ntmps54
  go_wp2
  go_ret
  exact ⟨rfl, below1 _ _⟩

set_option maxRecDepth 100000 in
set_option maxHeartbeats 2000000 in
theorem noted (h : Inv own w1 w R D pS lS vF vT vC fuel F l data told C) (by_ pa en : Nat) (op c : Int) (xs : List Int) (hx : xs.length ≤ 4) (ao : Option Addr) (tc : Nat) (hF : F.length ≤ 20) (hC : C.length < 100)
    (src : 0 < xs.length → ∃ ad, ao = some ad ∧ ∀ w', Below w.heap.size w w' → ∀ j u, (ints xs)[j]? = some u → w'.cell? (ad.add j) = some u) :
    Calls Tryd.prog 54 #[.pointer (some ⟨R, 0, none⟩), .int .i64 by_, .agg #[.int .i64 op, .int .i64 pa, .int .i64 en, .int .i64 c], .slice ao xs.length tc] w fun e w' => e = .returned (.int .i64 C.length) ∧ ∃ own' vC' va, Inv own' w1 w' R D pS lS vF vT vC' fuel F l data told (C ++ [({ by_ := by_, part := pa, entry := en, args := xs, deep := F.length, done := false, value := 0 }, va)]) ∧
      ∀ b, b < w.heap.size → own b ≠ (1, 0) → own b ≠ (5, 0) → w'.heap[b]? = w.heap[b]? := by
  have hb0 := below1 w (.cells #[.int .i64 op, .int .i64 pa, .int .i64 en, .int .i64 c] 27)
  have c8 : ∀ w', Below w.heap.size w w' → w'.cell? ⟨R, 8, none⟩ = some vC := fun w' hb => (hb.cell (p := ⟨R, 8, none⟩) h.run.lt).trans (h.run.cell 8 rfl)
  have c2 : ∀ w', Below w.heap.size w w' → w'.cell? ⟨R, 2, none⟩ = some vF := fun w' hb => (hb.cell (p := ⟨R, 2, none⟩) h.run.lt).trans (h.run.cell 2 rfl)
  obtain ⟨aF, cF, rfl⟩ := owned_form h.frames
  obtain ⟨aC, cC, rfl⟩ := owned_form h.calls
  have k34 : ∀ W, Below w.heap.size w W → _ := fun W hW => copied xs (by omega) ao tc W (fun hp => (src hp).imp fun ad hd => ⟨hd.1, fun w' hb => hd.2 w' (hW.trans (hb.mono hW.size))⟩)
  obtain ⟨rc, hrc⟩ : ∃ r : Rec, r = { by_ := by_, part := pa, entry := en, args := xs, deep := F.length, done := false, value := 0 } := ⟨_, rfl⟩
  have keep : ∀ (own' : Nat → Tag) w', (∀ k, k < w.heap.size → own' k = own k) → Below w.heap.size w w' → Inv own' w1 w' R D pS lS (.slice aF F.length cF) vT (.slice aC C.length cC) fuel F l data told C := fun own' w' ht hb => h.moves (Moves.below (own' := own') hb ht (9, 9))
  have key : ∀ w3 w' g' c' ga, Below w.heap.size w w3 → w.heap.size ≤ ga → ga < w3.heap.size → w3.ownsRow w.heap.size 3 1 (.slice (some ⟨ga, 0, none⟩) xs.length xs.length) xs.length (ints xs) → (w3.drew.alloc (.cells #[.int .i64 by_, .int .i64 pa, .int .i64 en, .slice (some ⟨ga, 0, none⟩) xs.length xs.length, .int .i64 F.length, .bool false, .int .i64 0] 76)).grownBy w' (Value.slice aC C.length cC).ownBlock → ((Value.slice (some ⟨g', 0, none⟩) (C.length + 1) c').ownBlock = (Value.slice aC C.length cC).ownBlock ∨ (Value.slice (some ⟨g', 0, none⟩) (C.length + 1) c').ownBlock = some (w3.drew.alloc (.cells #[.int .i64 by_, .int .i64 pa, .int .i64 en, .slice (some ⟨ga, 0, none⟩) xs.length xs.length, .int .i64 F.length, .bool false, .int .i64 0] 76)).heap.size) →
      w'.ownsRow 0 76 7 (.slice (some ⟨g', 0, none⟩) (C.length + 1) c') (C.length + 1) (flatC C ++ [.int .i64 by_, .int .i64 pa, .int .i64 en, .slice (some ⟨ga, 0, none⟩) xs.length xs.length, .int .i64 F.length, .bool false, .int .i64 0]) → ∃ own' vC' va, Inv own' w1 (w'.setCell ⟨R, 8, none⟩ (.slice (some ⟨g', 0, none⟩) (C.length + 1) c')) R D pS lS (.slice aF F.length cF) vT vC' fuel F l data told (C ++ [(rc, va)]) ∧ ∀ b, b < w.heap.size → own b ≠ (1, 0) → own b ≠ (5, 0) → (w'.setCell ⟨R, 8, none⟩ (.slice (some ⟨g', 0, none⟩) (C.length + 1) c')).heap[b]? = w.heap[b]? := by
    intro w3 w' g' c' ga hb hga hg3 ha hg hn ho
    have h3 := (keep (also own ga (7, C.length)) w3 (fun k hk => by unfold also; rw [if_neg (by omega)]) hb).moves ((Moves.drew _ w3 (9, 9)).trans (Moves.alloc _ w3.drew (.cells #[.int .i64 by_, .int .i64 pa, .int .i64 en, .slice (some ⟨ga, 0, none⟩) xs.length xs.length, .int .i64 F.length, .bool false, .int .i64 0] 76) (9, 9)))
    have hA : Owned (also own ga (7, C.length)) w3 3 1 (.slice (some ⟨ga, 0, none⟩) xs.length xs.length) xs.length (ints xs) (7, C.length) := ⟨⟨ha.1, ha.2.imp id fun ⟨g, cap, cur, h1, h2, h3⟩ => ⟨g, cap, cur, h1, Nat.zero_le _, h3⟩⟩, fun g hgg => by simp [Value.ownBlock] at hgg; subst hgg; simp [also]⟩
    have hA2 := hA.moves ((Moves.drew _ w3 (9, 9)).trans (Moves.alloc _ w3.drew (.cells #[.int .i64 by_, .int .i64 pa, .int .i64 en, .slice (some ⟨ga, 0, none⟩) xs.length xs.length, .int .i64 F.length, .bool false, .int .i64 0] 76) (9, 9))) (by simp)
    refine ⟨_, _, _, Inv.note_set (r := rc) h3 (by rw [hrc]; exact hA2) hg hn (by rw [hrc]; exact ho), fun b hbw h1 h5 => ?_⟩
    have hR : b ≠ R := fun e => h1 (by rw [e]; exact h.run.tag)
    rw [Below.heap_setCell _ _ _ _ (fun e => hR e)]
    have hC5 : ¬ (Value.slice aC C.length cC).ownBlock = some b := fun e => h5 (h.calls.tag b e)
    rw [hg.block b (by simp; exact Nat.lt_succ_of_lt (Nat.lt_of_lt_of_le hbw hb.size)) (fun e => hC5 e.symm), Below.heap_alloc _ _ _ (by exact Nat.lt_of_lt_of_le hbw hb.size)]
    exact hb.block b hbw
  have rowC : ∀ w3 ga, Below w.heap.size w w3 → (w3.drew.alloc (.cells #[.int .i64 by_, .int .i64 pa, .int .i64 en, .slice (some ⟨ga, 0, none⟩) xs.length xs.length, .int .i64 F.length, .bool false, .int .i64 0] 76)).ownsRow 0 76 7 (.slice aC C.length cC) C.length (flatC C) := by
    intro w3 ga hb
    exact ((keep own w3 (fun _ _ => rfl) hb).moves ((Moves.drew own w3 _).trans (Moves.alloc own w3.drew _ _))).calls.row
  have runR : ∀ w3 w' ga, Below w.heap.size w w3 → (w3.drew.alloc (.cells #[.int .i64 by_, .int .i64 pa, .int .i64 en, .slice (some ⟨ga, 0, none⟩) xs.length xs.length, .int .i64 F.length, .bool false, .int .i64 0] 76)).grownBy w' (Value.slice aC C.length cC).ownBlock → w'.cell? ⟨R, 8, none⟩ = some (.slice aC C.length cC) ∧ w'.frozen? ⟨R, 8, none⟩ = false := by
    intro w3 w' ga hb hg
    have h3 := (keep own w3 (fun _ _ => rfl) hb).moves ((Moves.drew own w3 _).trans (Moves.alloc own w3.drew (.cells #[.int .i64 by_, .int .i64 pa, .int .i64 en, .slice (some ⟨ga, 0, none⟩) xs.length xs.length, .int .i64 F.length, .bool false, .int .i64 0] 76) (9, 9)))
    have hr := h3.run.moves (Moves.grown (t := (5, 0)) h3.calls.tag hg) (by decide)
    exact ⟨hr.cell 8 rfl, hr.frozen 8⟩
  have run3 : ∀ w3, Below w.heap.size w w3 → w3.cell? ⟨R, 8, none⟩ = some (.slice aC C.length cC) := fun w3 hb => (keep own w3 (fun _ _ => rfl) hb).run.cell 8 rfl
  have hRlt : ∀ w3, Below w.heap.size w w3 → R < w3.heap.size := fun w3 hb => (keep own w3 (fun _ _ => rfl) hb).run.lt
  rw [← hrc]
  obtain ⟨nF, hnF⟩ : ∃ n, n = F.length := ⟨_, rfl⟩
  obtain ⟨nC, hnC⟩ : ∃ n, n = C.length := ⟨_, rfl⟩
  obtain ⟨nx, hnx⟩ : ∃ n, n = xs.length := ⟨_, rfl⟩
  rw [← hnF] at c2
  rw [← hnC] at c8
  have hCI : (nC : Int) < 100 := by omega
  have hFI : (nF : Int) ≤ 20 := by omega
  have hne : ((nC : Int) == 100) = false := by simp; omega
  rw [← hnx] at k34 ⊢
  rw [← hnC, ← hnF]
  rw [← hnC, ← hnF, ← hnx] at key
  rw [← hnC, ← hnF, ← hnx] at rowC
  rw [← hnC, ← hnF, ← hnx] at runR
  rw [← hnC] at run3
  have hnxI : (nx : Int) ≤ 4 := by omega
  have KEY : Hid _ := key
  have ROWC : Hid _ := rowC
  have RUNR : Hid _ := runR
  have RUN3 : Hid _ := run3
  have RLT : Hid _ := hRlt
  obtain ⟨i1, gi, gz0, gz1, gz2⟩ := info_parts info76
  clear key rowC runR run3 hRlt keep
  have C8 : Hid _ := c8
  have C2 : Hid _ := c2
  have K34 : Hid _ := k34
  have u8 := c8 _ hb0
  have u2 := c2 _ hb0
  have HB0 : Hid _ := hb0
  obtain ⟨W0, hW0⟩ : ∃ W, W = w.alloc (.cells #[.int .i64 op, .int .i64 pa, .int .i64 en, .int .i64 c] 27) := ⟨_, rfl⟩
  have all : ∀ w', Below (w.heap.size + 1) W0 w' → Below (w.heap.size + 1) W0 w' ∧ w'.cell? ⟨w.heap.size, 1, none⟩ = some (.int .i64 pa) ∧ w'.cell? ⟨w.heap.size, 2, none⟩ = some (.int .i64 en) ∧ w'.cell? ⟨R, 2, none⟩ = some (.slice aF nF cF) := by
    intro w' hb
    subst hW0
    refine ⟨hb, ?_, ?_, c2 w' (hb0.trans (hb.mono (by omega)))⟩
    · exact (hb.cell (p := ⟨w.heap.size, 1, none⟩) (by simp)).trans (by simp)
    · exact (hb.cell (p := ⟨w.heap.size, 2, none⟩) (by simp)).trans (by simp)
  have W0s : Hid (W0.heap.size = w.heap.size + 1) := by rw [hW0]; simp [Hid]
  have W0b : Hid (∀ w', Below (w.heap.size + 1) W0 w' → Below w.heap.size w w') := fun w' hb => by rw [hW0] at hb; exact hb0.trans (hb.mono (by omega))
  have ALL : Hid _ := all
  have HW0 : Hid _ := hW0
  clear h src c8 c2 k34 hb0 hnF hnC hnx all hW0
  go_enter Tryd.func54, Tryd.ntmps54
  go_wp2
  rw [← HW0.out]
  have Ws : Hid (w.heap.size + 1 ≤ W0.heap.size) := Nat.le_of_eq W0s.out.symm
  go_region_held3 (fun w' => Below (w.heap.size + 1) W0 w' ∧ w'.cell? ⟨w.heap.size, 1, none⟩ = some (.int .i64 pa) ∧ w'.cell? ⟨w.heap.size, 2, none⟩ = some (.int .i64 en) ∧ w'.cell? ⟨R, 2, none⟩ = some (.slice aF nF cF))
    (first
      | ((with_reducible show Below _ _ (World.setCell _ _ _) ∧ _); exact ALL.out _ (seven hb5 hs0))
      | (with_reducible exact ALL.out _ (Below.refl _ _).drew)
      | (with_reducible exact ALL.out _ ((Below.refl _ _).alloc Ws.out _).drew)
      | (with_reducible exact ALL.out _ hb5)
      | (with_reducible exact ALL.out _ (hb5.alloc hs5 _)))
    (first | (go_at_call 34; refine (K34.out _ (W0b.out _ (by first | (with_reducible exact (Below.refl _ _).drew) | (with_reducible exact ((Below.refl _ _).alloc Ws.out _).drew)))).mono ?_; rintro e w4 ⟨rfl, hb4, own4⟩; have hb5 : Below (w.heap.size + 1) W0 w4 := (by first | (with_reducible exact bel1 Ws.out hb4) | (with_reducible exact bel2 Ws.out hb4)); have hs5 : w.heap.size + 1 ≤ w4.heap.size := (Nat.le_trans Ws.out hb5.size); have hs0 : w.heap.size + 1 ≤ W0.heap.size := Ws.out; have hbk := hb4.block; have HBK : Hid _ := hbk; have OWN4 : Hid _ := own4; have HB4 : Hid _ := hb4; clear hbk own4 hb4; try (have hh5 := ((HBK.out W0.heap.size (by simp)).trans (heap_alloc_new W0 _)); have d := fun j => cell_of_row w4 W0.heap.size j _ 76 (0, 0) hh5; have d0 : w4.cell? ⟨W0.heap.size, 0, none⟩ = some (.int .i64 0) := d 0; have z0 := frozen_of_row w4 W0.heap.size 0 _ 76 hh5; have d1 : w4.cell? ⟨W0.heap.size, 1, none⟩ = some (.int .i64 0) := d 1; have z1 := frozen_of_row w4 W0.heap.size 1 _ 76 hh5; have d2 : w4.cell? ⟨W0.heap.size, 2, none⟩ = some (.int .i64 0) := d 2; have z2 := frozen_of_row w4 W0.heap.size 2 _ 76 hh5; have d3 : w4.cell? ⟨W0.heap.size, 3, none⟩ = some (.slice none 0 0) := d 3; have z3 := frozen_of_row w4 W0.heap.size 3 _ 76 hh5; have d4 : w4.cell? ⟨W0.heap.size, 4, none⟩ = some (.int .i64 0) := d 4; have z4 := frozen_of_row w4 W0.heap.size 4 _ 76 hh5; have d5 : w4.cell? ⟨W0.heap.size, 5, none⟩ = some (.bool false) := d 5; have z5 := frozen_of_row w4 W0.heap.size 5 _ 76 hh5; have d6 : w4.cell? ⟨W0.heap.size, 6, none⟩ = some (.int .i64 0) := d 6; have z6 := frozen_of_row w4 W0.heap.size 6 _ 76 hh5; have HH5 : Hid _ := hh5; clear d hh5)))
  · obtain ⟨WX, hWX⟩ : ∃ W, W = w4.alloc (.cells #[.int .i64 by_, .int .i64 pa, .int .i64 en, .slice (some ⟨W0.heap.size, 0, none⟩) nx nx, .int .i64 nF, .bool false, .int .i64 0] 76) := ⟨_, rfl⟩
    rw [← hWX]
    have hbX : Below (w.heap.size + 1) W0 WX := by rw [hWX]; exact hb5.alloc hs5 _
    have hX := W0b.out _ hbX
    have hgn : WX.heap[w4.heap.size]? = some (.cells #[.int .i64 by_, .int .i64 pa, .int .i64 en, .slice (some ⟨W0.heap.size, 0, none⟩) nx nx, .int .i64 nF, .bool false, .int .i64 0] 76 (0, 0)) := by rw [hWX]; exact heap_alloc_new _ _
    have hown : WX.ownsRow w.heap.size 3 1 (.slice (some ⟨W0.heap.size, 0, none⟩) nx nx) nx (ints xs) := by rw [hWX]; exact World.ownsRow.alloc (row_base (Nat.le_of_succ_le Ws.out) OWN4.out) _
    have hga : W0.heap.size < WX.heap.size := hown_lt hown
    have hga0 : w.heap.size ≤ W0.heap.size := Nat.le_of_succ_le Ws.out
    have hgl : w4.heap.size < WX.heap.size := (Array.getElem?_eq_some_iff.1 hgn).1
    obtain ⟨gn, hgnn⟩ : ∃ g, g = w4.heap.size := ⟨_, rfl⟩
    obtain ⟨ga, hgaa⟩ : ∃ g, g = W0.heap.size := ⟨_, rfl⟩
    rw [← hgnn, ← hgaa] at hgn
    rw [← hgaa] at hown hga hga0
    rw [← hgnn] at hgl
    rw [← hgnn, ← hgaa]
    have e0 : ∀ j u, ([.int .i64 by_, .int .i64 pa, .int .i64 en, .slice (some ⟨ga, 0, none⟩) nx nx, .int .i64 nF, .bool false, .int .i64 0] : List Value)[j]? = some u → WX.cell? ⟨gn, j, none⟩ = some u := fun j u hu => (cell_of_row WX _ j _ _ _ hgn).trans (by simpa using hu)
    have c3 := RUN3.out WX hX
    have r3 := RLT.out WX hX
    have HOWN : Hid (WX.ownsRow w.heap.size 3 1 (.slice (some ⟨ga, 0, none⟩) nx nx) nx (ints xs)) := hown
    have HX : Hid _ := hX
    have HGA : Hid (ga < WX.heap.size) := hga
    have HGA0 : Hid (w.heap.size ≤ ga) := hga0
    clear hWX hbX hX hgn hown hga hga0 hgnn hgaa hb5 hs5 hs0
    have NEW : Hid _ := Enter.twelve_new (w := WX.drew) (L := [.int .i64 by_, .int .i64 pa, .int .i64 en, .slice (some ⟨ga, 0, none⟩) nx nx, .int .i64 nF, .bool false, .int .i64 0]) (t := 76)
    have ONE : Hid (∀ u ∈ ([.int .i64 by_, .int .i64 pa, .int .i64 en, .slice (some ⟨ga, 0, none⟩) nx nx, .int .i64 nF, .bool false, .int .i64 0] : List Value), u.oneCell' = true) := by simp [Hid, Value.oneCell']
    go_wp2
    go_region_law (refine step_append_fresh (by rfl) (.tmp 35) (.tmp 37) 39 (by rfl) 0 76 i1 _ 7 72 Tryd.underlying39 gi gz0 gz1 gz2 (by rfl) (by decide) (.slice aC nC cC) nC (flatC C) (by rfl) (ROWC.out WX ga HX.out) ⟨WX.heap.size, 0, none⟩ 1 1 (by decide) [.int .i64 by_, .int .i64 pa, .int .i64 en, .slice (some ⟨ga, 0, none⟩) nx nx, .int .i64 nF, .bool false, .int .i64 0] (by rfl) (by rfl) NEW.out ONE.out (by unfold maxLen; omega) (by omega) (Nat.zero_le _) ?_; intro g' c' w5 ho hg hn; obtain ⟨q0, q1⟩ := RUNR.out WX w5 ga HX.out hg; have HGG : Hid _ := hg; have HNN : Hid _ := hn; have HOO : Hid _ := ho; clear hg hn ho)
    all_goals
      go_wp2
      go_ret
      exact ⟨rfl, KEY.out WX _ _ _ ga HX.out HGA0.out HGA.out HOWN.out HGG.out HNN.out HOO.out⟩
  · obtain ⟨WX, hWX⟩ : ∃ W, W = (((((((w4.setCell ⟨W0.heap.size, 0, none⟩ (.int .i64 by_)).setCell ⟨W0.heap.size, 1, none⟩ (.int .i64 pa)).setCell ⟨W0.heap.size, 2, none⟩ (.int .i64 en)).setCell ⟨W0.heap.size, 3, none⟩ (.slice (some ⟨W0.heap.size + 1, 0, none⟩) nx nx)).setCell ⟨W0.heap.size, 4, none⟩ (.int .i64 nF)).setCell ⟨W0.heap.size, 5, none⟩ (.bool false)).setCell ⟨W0.heap.size, 6, none⟩ (.int .i64 0)) := ⟨_, rfl⟩
    rw [← hWX]
    have hbX : Below (w.heap.size + 1) W0 WX := by rw [hWX]; exact seven hb5 hs0
    have hX := W0b.out _ hbX
    have hgn : WX.heap[W0.heap.size]? = some (.cells #[.int .i64 by_, .int .i64 pa, .int .i64 en, .slice (some ⟨W0.heap.size + 1, 0, none⟩) nx nx, .int .i64 nF, .bool false, .int .i64 0] 76 (0, 0)) := by rw [hWX]; exact seven_heap HH5.out
    have hown : WX.ownsRow w.heap.size 3 1 (.slice (some ⟨W0.heap.size + 1, 0, none⟩) nx nx) nx (ints xs) := by rw [hWX]; exact seven_owns (by omega) (row_base (Nat.le_of_succ_le (Nat.le_succ_of_le Ws.out)) (own_eq (by simp) OWN4.out))
    have hga : W0.heap.size + 1 < WX.heap.size := hown_lt hown
    have hga0 : w.heap.size ≤ W0.heap.size + 1 := Nat.le_of_succ_le (Nat.le_succ_of_le Ws.out)
    have hgl : W0.heap.size < WX.heap.size := (Array.getElem?_eq_some_iff.1 hgn).1
    obtain ⟨ga, hgaa⟩ : ∃ g, g = W0.heap.size + 1 := ⟨_, rfl⟩
    obtain ⟨gn, hgnn⟩ : ∃ g, g = W0.heap.size := ⟨_, rfl⟩
    rw [← hgaa, ← hgnn] at hgn
    rw [← hgaa] at hown hga hga0
    rw [← hgnn] at hgl
    rw [← hgaa, ← hgnn]
    have e0 : ∀ j u, ([.int .i64 by_, .int .i64 pa, .int .i64 en, .slice (some ⟨ga, 0, none⟩) nx nx, .int .i64 nF, .bool false, .int .i64 0] : List Value)[j]? = some u → WX.cell? ⟨gn, j, none⟩ = some u := fun j u hu => (cell_of_row WX _ j _ _ _ hgn).trans (by simpa using hu)
    have c3 := RUN3.out WX hX
    have r3 := RLT.out WX hX
    have HOWN : Hid (WX.ownsRow w.heap.size 3 1 (.slice (some ⟨ga, 0, none⟩) nx nx) nx (ints xs)) := hown
    have HX : Hid _ := hX
    have HGA : Hid (ga < WX.heap.size) := hga
    have HGA0 : Hid (w.heap.size ≤ ga) := hga0
    clear hWX hbX hX hgn hown hga hga0 hgnn hgaa hb5 hs5 hs0
    have NEW : Hid _ := Enter.twelve_new (w := WX.drew) (L := [.int .i64 by_, .int .i64 pa, .int .i64 en, .slice (some ⟨ga, 0, none⟩) nx nx, .int .i64 nF, .bool false, .int .i64 0]) (t := 76)
    have ONE : Hid (∀ u ∈ ([.int .i64 by_, .int .i64 pa, .int .i64 en, .slice (some ⟨ga, 0, none⟩) nx nx, .int .i64 nF, .bool false, .int .i64 0] : List Value), u.oneCell' = true) := by simp [Hid, Value.oneCell']
    go_wp2
    go_region_law (refine step_append_fresh (by rfl) (.tmp 35) (.tmp 37) 39 (by rfl) 0 76 i1 _ 7 72 Tryd.underlying39 gi gz0 gz1 gz2 (by rfl) (by decide) (.slice aC nC cC) nC (flatC C) (by rfl) (ROWC.out WX ga HX.out) ⟨WX.heap.size, 0, none⟩ 1 1 (by decide) [.int .i64 by_, .int .i64 pa, .int .i64 en, .slice (some ⟨ga, 0, none⟩) nx nx, .int .i64 nF, .bool false, .int .i64 0] (by rfl) (by rfl) NEW.out ONE.out (by unfold maxLen; omega) (by omega) (Nat.zero_le _) ?_; intro g' c' w5 ho hg hn; obtain ⟨q0, q1⟩ := RUNR.out WX w5 ga HX.out hg; have HGG : Hid _ := hg; have HNN : Hid _ := hn; have HOO : Hid _ := ho; clear hg hn ho)
    all_goals
      go_wp2
      go_ret
      exact ⟨rfl, KEY.out WX _ _ _ ga HX.out HGA0.out HGA.out HOWN.out HGG.out HNN.out HOO.out⟩
end
end Go.Proofs.YtmbbkabecipkaacDoor.Noted
