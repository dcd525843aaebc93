/-
  WHAT mach.enter GIVES.
  Conditions: the run lies there.
-/
import Derived.Test.YtmbbkabecipkaacDoorWhole2
namespace Go.Proofs.YtmbbkabecipkaacDoor.Enter
open Go.RowKit Tab Go.Proofs.YtmbbkabecipkaacDoor.Check Lists Img Mach Own Go.Proofs.YtmbbkabecipkaacDoor.Inv Go.Proofs.YtmbbkabecipkaacDoor.Frame Take

theorem info85 : (Tryd.prog.info? 85).map (fun i => (i.zero, i.size, i.bytes)) = some (some (.agg #[.int .i64 0, .int .i64 0, .int .i64 0, .int .i64 0, .int .i64 0, .int .i64 0, .int .i64 0, .int .i64 0, .int .i64 0, .int .i64 0, .slice none 0 0, .int .i64 0]), 12, 112) := by kernel_rfl
section
variable {own : Nat → Tag} {w1 w : World} {R D g cap : Nat} {pS lS vF vT vC : Value} {fuel : Int} {f : Fr} {v : Value} {F : List (Fr × Value)} {l data told : List Int} {C : List (Rec × Value)}

theorem deep (a b : Int) (tv : Value) (n : Int) (w : World) (R : Nat) (ao : Option Addr) (cp : Nat) (c : w.cell? ⟨R, 2, none⟩ = some (.slice ao 20 cp)) :
    Calls Tryd.prog 24 #[.pointer (some ⟨R, 0, none⟩), .int .i64 a, .int .i64 b, tv, .int .i64 n] w fun e w' => e = .returned (.int .i64 5) ∧ w' = w := by
  go_enter Tryd.func24, Tryd.ntmps24
  go_wp2
  go_ret
  exact ⟨rfl, rfl⟩

/-- a frame's cells, as they are laid for the append -/
theorem twelve_new {w : World} {L : List Value} {t : TypeId} : ∀ (j : Nat) (u : Value), L[j]? = some u → (w.alloc (.cells L.toArray t)).cell? ((⟨w.heap.size, 0, none⟩ : Addr).add j) = some u := by
  intro j u hj
  rw [show (⟨w.heap.size, 0, none⟩ : Addr).add j = ⟨w.heap.size, j, none⟩ by unfold Addr.add; split <;> simp_all, cell_of_row _ _ _ _ _ _ (heap_alloc_new w _)]
  simpa using hj

set_option maxRecDepth 100000 in
set_option maxHeartbeats 1000000 in
theorem enter0 (h : Inv own w1 w R D pS lS vF vT vC fuel F l data told C) (part pc : Nat) (nt : Option Nat) (ao : Option Addr) (c : Nat) (hF : F.length < 20)
    (src : 0 < 0 → ∃ ad, ao = some ad ∧ ∀ w', Below w.heap.size w w' → ∀ j u, (ints [])[j]? = some u → w'.cell? (ad.add j) = some u) :
    Calls Tryd.prog 24 #[.pointer (some ⟨R, 0, none⟩), .int .i64 part, .int .i64 pc, .slice ao 0 c, .int .i64 (note nt)] w fun e w' => e = .returned (.int .i64 0) ∧ ∃ own' v', Inv own' w1 w' R D pS lS v' vT vC fuel (({ part := part, pc := pc, locals := pad [], words := [], noted := nt }, .slice none 0 0) :: F) [] data told C := by
  have c2 := h.run.cell 2 (v := vF) rfl
  have keep := fun w' (hb : Below w.heap.size w w') => h.moves (Moves.below (own' := own) hb (fun _ _ => rfl) (9, 9))
  have src' : ∀ w', Below w.heap.size w w' → 0 < 0 → ∃ ad, ao = some ad ∧ ∀ j u, ([] : List Value)[j]? = some u → w'.cell? (ad.add j) = some u := fun w' hb hp => (src hp).imp fun ad hd => ⟨hd.1, hd.2 w' hb⟩
  obtain ⟨ao2, cp, rfl⟩ := owned_form h.frames
  have hFI : (F.length : Int) < 20 := by omega
  have hne : ((F.length : Int) == 20) = false := by simp; omega
  obtain ⟨i0, hi, hz0, hz1, hz2⟩ := info_parts info3
  have s1 : (Tryd.prog.info? 3).map (·.size) = some 1 := by rw [hi]; simp [hz1]
  obtain ⟨i1, gi, gz0, gz1, gz2⟩ := info_parts info85
  obtain ⟨k, hk⟩ : ∃ k, k = F.length := ⟨_, rfl⟩
  obtain ⟨q, hq⟩ : ∃ q, q = note nt := ⟨_, rfl⟩
  have hb0 := below1 w (.cells #[.int .i64 part, .int .i64 pc, .int .i64 0, .int .i64 0, .int .i64 0, .int .i64 0, .int .i64 0, .int .i64 0, .int .i64 0, .int .i64 0, .slice none 0 0, .int .i64 q] 85)
  have key : ∀ w3 w' g' c', Below w.heap.size w w3 → (w3.drew.alloc (.cells #[.int .i64 part, .int .i64 pc, .int .i64 0, .int .i64 0, .int .i64 0, .int .i64 0, .int .i64 0, .int .i64 0, .int .i64 0, .int .i64 0, .slice none 0 0, .int .i64 q] 85)).grownBy w' (Value.slice ao2 k cp).ownBlock → ((Value.slice (some ⟨g', 0, none⟩) (k + 1) c').ownBlock = (Value.slice ao2 k cp).ownBlock ∨ (Value.slice (some ⟨g', 0, none⟩) (k + 1) c').ownBlock = some (w3.drew.alloc (.cells #[.int .i64 part, .int .i64 pc, .int .i64 0, .int .i64 0, .int .i64 0, .int .i64 0, .int .i64 0, .int .i64 0, .int .i64 0, .int .i64 0, .slice none 0 0, .int .i64 q] 85)).heap.size) →
      w'.ownsRow 0 85 12 (.slice (some ⟨g', 0, none⟩) (k + 1) c') (k + 1) (flat F ++ [.int .i64 part, .int .i64 pc, .int .i64 0, .int .i64 0, .int .i64 0, .int .i64 0, .int .i64 0, .int .i64 0, .int .i64 0, .int .i64 0, .slice none 0 0, .int .i64 q]) → ∃ own' v', Inv own' w1 (w'.setCell ⟨R, 2, none⟩ (.slice (some ⟨g', 0, none⟩) (k + 1) c')) R D pS lS v' vT vC fuel (({ part := part, pc := pc, locals := pad [], words := [], noted := nt }, .slice none 0 0) :: F) [] data told C := by
    intro w3 w' g' c' hb hg hn ho
    rw [hk] at hg hn ho ⊢
    exact ⟨_, _, Inv.enter_set (g := { part := part, pc := pc, locals := pad [], words := [], noted := nt }) ((keep w3 hb).moves ((Moves.drew own w3 _).trans (Moves.alloc own w3.drew _ _))) rfl rfl hg hn (by rw [hq] at ho; exact ho)⟩
  have rowF : ∀ w3, Below w.heap.size w w3 → (w3.drew.alloc (.cells #[.int .i64 part, .int .i64 pc, .int .i64 0, .int .i64 0, .int .i64 0, .int .i64 0, .int .i64 0, .int .i64 0, .int .i64 0, .int .i64 0, .slice none 0 0, .int .i64 q] 85)).ownsRow 0 85 12 (.slice ao2 k cp) k (flat F) := by
    intro w3 hb
    rw [hk]
    exact ((keep w3 hb).moves ((Moves.drew own w3 _).trans (Moves.alloc own w3.drew _ _))).frames.row
  have runR : ∀ w3 w', Below w.heap.size w w3 → (w3.drew.alloc (.cells #[.int .i64 part, .int .i64 pc, .int .i64 0, .int .i64 0, .int .i64 0, .int .i64 0, .int .i64 0, .int .i64 0, .int .i64 0, .int .i64 0, .slice none 0 0, .int .i64 q] 85)).grownBy w' (Value.slice ao2 k cp).ownBlock → w'.cell? ⟨R, 2, none⟩ = some (.slice ao2 k cp) ∧ w'.frozen? ⟨R, 2, none⟩ = false := by
    intro w3 w' hb hg
    have h3 := (keep w3 hb).moves ((Moves.drew own w3 _).trans (Moves.alloc own w3.drew (.cells #[.int .i64 part, .int .i64 pc, .int .i64 0, .int .i64 0, .int .i64 0, .int .i64 0, .int .i64 0, .int .i64 0, .int .i64 0, .int .i64 0, .slice none 0 0, .int .i64 q] 85) (9, 9)))
    rw [hk] at hg ⊢
    have hr := h3.run.moves (Moves.grown (t := (3, 0)) h3.frames.tag hg) (by decide)
    exact ⟨hr.cell 2 rfl, hr.frozen 2⟩
  have run3 : ∀ w3, Below w.heap.size w w3 → w3.cell? ⟨R, 2, none⟩ = some (.slice ao2 k cp) := by
    intro w3 hb
    rw [hk]
    exact (keep w3 hb).run.cell 2 rfl
  have hRlt : ∀ w3, Below w.heap.size w w3 → R < w3.heap.size := fun w3 hb => (keep w3 hb).run.lt
  rw [← hk] at c2 hFI hne hF
  rw [← hq]
  have KEY : Hid _ := key
  have ROW : Hid _ := rowF
  have RUN : Hid _ := runR
  have RUN3 : Hid _ := run3
  have SRC : Hid _ := src'
  have HB0 : Hid _ := hb0
  have RLT : Hid _ := hRlt
  clear h hk hq key rowF runR run3 src src' hb0 keep hRlt
  go_enter Tryd.func24, Tryd.ntmps24
  go_wp2_with ((with_reducible show wpList _ _ _ ({ dst := some 25, op := _, type := _, pos := _, after := _, guard := _ } :: _) _ _); refine wpList_copy_splice rfl (.tmp 23) (.tmp 24) 29 29 rfl 3 Tryd.underlying29 s1 (some ⟨w.heap.size, 2, none⟩) ao 8 8 0 c rfl rfl w.heap.size 2 [.int .i64 part, .int .i64 pc, .int .i64 0, .int .i64 0, .int .i64 0, .int .i64 0, .int .i64 0, .int .i64 0, .int .i64 0, .int .i64 0, .slice none 0 0, .int .i64 q] 85 (heap_alloc_new w _) [] rfl (fun hp => ⟨rfl, SRC.out _ HB0.out hp⟩) (by simp) (ints_oneCell .i64 []) w.heap.size w HB0.out (Nat.le_refl _) ?_; intro w3 hg3 hb3; have c3 := RUN3.out w3 hb3; have r3 := RLT.out w3 hb3; have hg3' : w3.heap[w.heap.size]? = some (.cells #[.int .i64 part, .int .i64 pc, .int .i64 0, .int .i64 0, .int .i64 0, .int .i64 0, .int .i64 0, .int .i64 0, .int .i64 0, .int .i64 0, .slice none 0 0, .int .i64 q] 85 (0, 0)) := hg3.out)
  have HG3 : Hid _ := hg3'
  have HB3 : Hid _ := hb3
  have e0 : ∀ j u, ([.int .i64 part, .int .i64 pc, .int .i64 0, .int .i64 0, .int .i64 0, .int .i64 0, .int .i64 0, .int .i64 0, .int .i64 0, .int .i64 0, .slice none 0 0, .int .i64 q] : List Value)[j]? = some u → w3.cell? ⟨w.heap.size, j, none⟩ = some u := fun j u hu => (cell_of_row w3 _ j _ _ _ HG3.out).trans (by simpa using hu)
  clear hg3' hg3 hb3
  have NEW : Hid _ := twelve_new (w := w3.drew) (L := [.int .i64 part, .int .i64 pc, .int .i64 0, .int .i64 0, .int .i64 0, .int .i64 0, .int .i64 0, .int .i64 0, .int .i64 0, .int .i64 0, .slice none 0 0, .int .i64 q]) (t := 85)
  have ONE : Hid (∀ u ∈ ([.int .i64 part, .int .i64 pc, .int .i64 0, .int .i64 0, .int .i64 0, .int .i64 0, .int .i64 0, .int .i64 0, .int .i64 0, .int .i64 0, .slice none 0 0, .int .i64 q] : List Value), u.oneCell' = true) := by simp [Hid, Value.oneCell']
  go_region_law (refine step_append_fresh (by rfl) (.tmp 30) (.tmp 32) 66 (by rfl) 0 85 i1 _ 12 112 Tryd.underlying66 gi gz0 gz1 gz2 (by rfl) (by decide) (.slice ao2 k cp) k (flat F) (by rfl) (ROW.out w3 HB3.out) ⟨w3.heap.size, 0, none⟩ 1 1 (by decide) [.int .i64 part, .int .i64 pc, .int .i64 0, .int .i64 0, .int .i64 0, .int .i64 0, .int .i64 0, .int .i64 0, .int .i64 0, .int .i64 0, .slice none 0 0, .int .i64 q] (by rfl) (by rfl) NEW.out ONE.out (by unfold maxLen; omega) (by omega) (Nat.zero_le _) ?_; intro g' c' w4 ho hg hn; obtain ⟨q0, q1⟩ := RUN.out w3 w4 HB3.out hg; have HGG : Hid _ := hg; have HNN : Hid _ := hn; have HOO : Hid _ := ho; clear hg hn ho)
  all_goals
    go_wp2
    go_ret
    exact ⟨rfl, KEY.out w3 _ _ _ HB3.out HGG.out HNN.out HOO.out⟩

set_option maxRecDepth 100000 in
set_option maxHeartbeats 1000000 in
theorem enter1 (h : Inv own w1 w R D pS lS vF vT vC fuel F l data told C) (x0 : Int) (part pc : Nat) (nt : Option Nat) (ao : Option Addr) (c : Nat) (hF : F.length < 20)
    (src : 0 < 1 → ∃ ad, ao = some ad ∧ ∀ w', Below w.heap.size w w' → ∀ j u, (ints [x0])[j]? = some u → w'.cell? (ad.add j) = some u) :
    Calls Tryd.prog 24 #[.pointer (some ⟨R, 0, none⟩), .int .i64 part, .int .i64 pc, .slice ao 1 c, .int .i64 (note nt)] w fun e w' => e = .returned (.int .i64 0) ∧ ∃ own' v', Inv own' w1 w' R D pS lS v' vT vC fuel (({ part := part, pc := pc, locals := pad [x0], words := [], noted := nt }, .slice none 0 0) :: F) [] data told C := by
  have c2 := h.run.cell 2 (v := vF) rfl
  have keep := fun w' (hb : Below w.heap.size w w') => h.moves (Moves.below (own' := own) hb (fun _ _ => rfl) (9, 9))
  have src' : ∀ w', Below w.heap.size w w' → 0 < 1 → ∃ ad, ao = some ad ∧ ∀ j u, ([.int .i64 x0] : List Value)[j]? = some u → w'.cell? (ad.add j) = some u := fun w' hb hp => (src hp).imp fun ad hd => ⟨hd.1, hd.2 w' hb⟩
  obtain ⟨ao2, cp, rfl⟩ := owned_form h.frames
  have hFI : (F.length : Int) < 20 := by omega
  have hne : ((F.length : Int) == 20) = false := by simp; omega
  obtain ⟨i0, hi, hz0, hz1, hz2⟩ := info_parts info3
  have s1 : (Tryd.prog.info? 3).map (·.size) = some 1 := by rw [hi]; simp [hz1]
  obtain ⟨i1, gi, gz0, gz1, gz2⟩ := info_parts info85
  obtain ⟨k, hk⟩ : ∃ k, k = F.length := ⟨_, rfl⟩
  obtain ⟨q, hq⟩ : ∃ q, q = note nt := ⟨_, rfl⟩
  have hb0 := below1 w (.cells #[.int .i64 part, .int .i64 pc, .int .i64 0, .int .i64 0, .int .i64 0, .int .i64 0, .int .i64 0, .int .i64 0, .int .i64 0, .int .i64 0, .slice none 0 0, .int .i64 q] 85)
  have key : ∀ w3 w' g' c', Below w.heap.size w w3 → (w3.drew.alloc (.cells #[.int .i64 part, .int .i64 pc, .int .i64 x0, .int .i64 0, .int .i64 0, .int .i64 0, .int .i64 0, .int .i64 0, .int .i64 0, .int .i64 0, .slice none 0 0, .int .i64 q] 85)).grownBy w' (Value.slice ao2 k cp).ownBlock → ((Value.slice (some ⟨g', 0, none⟩) (k + 1) c').ownBlock = (Value.slice ao2 k cp).ownBlock ∨ (Value.slice (some ⟨g', 0, none⟩) (k + 1) c').ownBlock = some (w3.drew.alloc (.cells #[.int .i64 part, .int .i64 pc, .int .i64 x0, .int .i64 0, .int .i64 0, .int .i64 0, .int .i64 0, .int .i64 0, .int .i64 0, .int .i64 0, .slice none 0 0, .int .i64 q] 85)).heap.size) →
      w'.ownsRow 0 85 12 (.slice (some ⟨g', 0, none⟩) (k + 1) c') (k + 1) (flat F ++ [.int .i64 part, .int .i64 pc, .int .i64 x0, .int .i64 0, .int .i64 0, .int .i64 0, .int .i64 0, .int .i64 0, .int .i64 0, .int .i64 0, .slice none 0 0, .int .i64 q]) → ∃ own' v', Inv own' w1 (w'.setCell ⟨R, 2, none⟩ (.slice (some ⟨g', 0, none⟩) (k + 1) c')) R D pS lS v' vT vC fuel (({ part := part, pc := pc, locals := pad [x0], words := [], noted := nt }, .slice none 0 0) :: F) [] data told C := by
    intro w3 w' g' c' hb hg hn ho
    rw [hk] at hg hn ho ⊢
    exact ⟨_, _, Inv.enter_set (g := { part := part, pc := pc, locals := pad [x0], words := [], noted := nt }) ((keep w3 hb).moves ((Moves.drew own w3 _).trans (Moves.alloc own w3.drew _ _))) rfl rfl hg hn (by rw [hq] at ho; exact ho)⟩
  have rowF : ∀ w3, Below w.heap.size w w3 → (w3.drew.alloc (.cells #[.int .i64 part, .int .i64 pc, .int .i64 x0, .int .i64 0, .int .i64 0, .int .i64 0, .int .i64 0, .int .i64 0, .int .i64 0, .int .i64 0, .slice none 0 0, .int .i64 q] 85)).ownsRow 0 85 12 (.slice ao2 k cp) k (flat F) := by
    intro w3 hb
    rw [hk]
    exact ((keep w3 hb).moves ((Moves.drew own w3 _).trans (Moves.alloc own w3.drew _ _))).frames.row
  have runR : ∀ w3 w', Below w.heap.size w w3 → (w3.drew.alloc (.cells #[.int .i64 part, .int .i64 pc, .int .i64 x0, .int .i64 0, .int .i64 0, .int .i64 0, .int .i64 0, .int .i64 0, .int .i64 0, .int .i64 0, .slice none 0 0, .int .i64 q] 85)).grownBy w' (Value.slice ao2 k cp).ownBlock → w'.cell? ⟨R, 2, none⟩ = some (.slice ao2 k cp) ∧ w'.frozen? ⟨R, 2, none⟩ = false := by
    intro w3 w' hb hg
    have h3 := (keep w3 hb).moves ((Moves.drew own w3 _).trans (Moves.alloc own w3.drew (.cells #[.int .i64 part, .int .i64 pc, .int .i64 x0, .int .i64 0, .int .i64 0, .int .i64 0, .int .i64 0, .int .i64 0, .int .i64 0, .int .i64 0, .slice none 0 0, .int .i64 q] 85) (9, 9)))
    rw [hk] at hg ⊢
    have hr := h3.run.moves (Moves.grown (t := (3, 0)) h3.frames.tag hg) (by decide)
    exact ⟨hr.cell 2 rfl, hr.frozen 2⟩
  have run3 : ∀ w3, Below w.heap.size w w3 → w3.cell? ⟨R, 2, none⟩ = some (.slice ao2 k cp) := by
    intro w3 hb
    rw [hk]
    exact (keep w3 hb).run.cell 2 rfl
  have hRlt : ∀ w3, Below w.heap.size w w3 → R < w3.heap.size := fun w3 hb => (keep w3 hb).run.lt
  rw [← hk] at c2 hFI hne hF
  rw [← hq]
  have KEY : Hid _ := key
  have ROW : Hid _ := rowF
  have RUN : Hid _ := runR
  have RUN3 : Hid _ := run3
  have SRC : Hid _ := src'
  have HB0 : Hid _ := hb0
  have RLT : Hid _ := hRlt
  clear h hk hq key rowF runR run3 src src' hb0 keep hRlt
  go_enter Tryd.func24, Tryd.ntmps24
  go_wp2_with ((with_reducible show wpList _ _ _ ({ dst := some 25, op := _, type := _, pos := _, after := _, guard := _ } :: _) _ _); refine wpList_copy_splice rfl (.tmp 23) (.tmp 24) 29 29 rfl 3 Tryd.underlying29 s1 (some ⟨w.heap.size, 2, none⟩) ao 8 8 1 c rfl rfl w.heap.size 2 [.int .i64 part, .int .i64 pc, .int .i64 0, .int .i64 0, .int .i64 0, .int .i64 0, .int .i64 0, .int .i64 0, .int .i64 0, .int .i64 0, .slice none 0 0, .int .i64 q] 85 (heap_alloc_new w _) [.int .i64 x0] rfl (fun hp => ⟨rfl, SRC.out _ HB0.out hp⟩) (by simp) (ints_oneCell .i64 [x0]) w.heap.size w HB0.out (Nat.le_refl _) ?_; intro w3 hg3 hb3; have c3 := RUN3.out w3 hb3; have r3 := RLT.out w3 hb3; have hg3' : w3.heap[w.heap.size]? = some (.cells #[.int .i64 part, .int .i64 pc, .int .i64 x0, .int .i64 0, .int .i64 0, .int .i64 0, .int .i64 0, .int .i64 0, .int .i64 0, .int .i64 0, .slice none 0 0, .int .i64 q] 85 (0, 0)) := hg3.out)
  have HG3 : Hid _ := hg3'
  have HB3 : Hid _ := hb3
  have e0 : ∀ j u, ([.int .i64 part, .int .i64 pc, .int .i64 x0, .int .i64 0, .int .i64 0, .int .i64 0, .int .i64 0, .int .i64 0, .int .i64 0, .int .i64 0, .slice none 0 0, .int .i64 q] : List Value)[j]? = some u → w3.cell? ⟨w.heap.size, j, none⟩ = some u := fun j u hu => (cell_of_row w3 _ j _ _ _ HG3.out).trans (by simpa using hu)
  clear hg3' hg3 hb3
  have NEW : Hid _ := twelve_new (w := w3.drew) (L := [.int .i64 part, .int .i64 pc, .int .i64 x0, .int .i64 0, .int .i64 0, .int .i64 0, .int .i64 0, .int .i64 0, .int .i64 0, .int .i64 0, .slice none 0 0, .int .i64 q]) (t := 85)
  have ONE : Hid (∀ u ∈ ([.int .i64 part, .int .i64 pc, .int .i64 x0, .int .i64 0, .int .i64 0, .int .i64 0, .int .i64 0, .int .i64 0, .int .i64 0, .int .i64 0, .slice none 0 0, .int .i64 q] : List Value), u.oneCell' = true) := by simp [Hid, Value.oneCell']
  go_region_law (refine step_append_fresh (by rfl) (.tmp 30) (.tmp 32) 66 (by rfl) 0 85 i1 _ 12 112 Tryd.underlying66 gi gz0 gz1 gz2 (by rfl) (by decide) (.slice ao2 k cp) k (flat F) (by rfl) (ROW.out w3 HB3.out) ⟨w3.heap.size, 0, none⟩ 1 1 (by decide) [.int .i64 part, .int .i64 pc, .int .i64 x0, .int .i64 0, .int .i64 0, .int .i64 0, .int .i64 0, .int .i64 0, .int .i64 0, .int .i64 0, .slice none 0 0, .int .i64 q] (by rfl) (by rfl) NEW.out ONE.out (by unfold maxLen; omega) (by omega) (Nat.zero_le _) ?_; intro g' c' w4 ho hg hn; obtain ⟨q0, q1⟩ := RUN.out w3 w4 HB3.out hg; have HGG : Hid _ := hg; have HNN : Hid _ := hn; have HOO : Hid _ := ho; clear hg hn ho)
  all_goals
    go_wp2
    go_ret
    exact ⟨rfl, KEY.out w3 _ _ _ HB3.out HGG.out HNN.out HOO.out⟩

set_option maxRecDepth 100000 in
set_option maxHeartbeats 1000000 in
theorem enter2 (h : Inv own w1 w R D pS lS vF vT vC fuel F l data told C) (x0 x1 : Int) (part pc : Nat) (nt : Option Nat) (ao : Option Addr) (c : Nat) (hF : F.length < 20)
    (src : 0 < 2 → ∃ ad, ao = some ad ∧ ∀ w', Below w.heap.size w w' → ∀ j u, (ints [x0, x1])[j]? = some u → w'.cell? (ad.add j) = some u) :
    Calls Tryd.prog 24 #[.pointer (some ⟨R, 0, none⟩), .int .i64 part, .int .i64 pc, .slice ao 2 c, .int .i64 (note nt)] w fun e w' => e = .returned (.int .i64 0) ∧ ∃ own' v', Inv own' w1 w' R D pS lS v' vT vC fuel (({ part := part, pc := pc, locals := pad [x0, x1], words := [], noted := nt }, .slice none 0 0) :: F) [] data told C := by
  have c2 := h.run.cell 2 (v := vF) rfl
  have keep := fun w' (hb : Below w.heap.size w w') => h.moves (Moves.below (own' := own) hb (fun _ _ => rfl) (9, 9))
  have src' : ∀ w', Below w.heap.size w w' → 0 < 2 → ∃ ad, ao = some ad ∧ ∀ j u, ([.int .i64 x0, .int .i64 x1] : List Value)[j]? = some u → w'.cell? (ad.add j) = some u := fun w' hb hp => (src hp).imp fun ad hd => ⟨hd.1, hd.2 w' hb⟩
  obtain ⟨ao2, cp, rfl⟩ := owned_form h.frames
  have hFI : (F.length : Int) < 20 := by omega
  have hne : ((F.length : Int) == 20) = false := by simp; omega
  obtain ⟨i0, hi, hz0, hz1, hz2⟩ := info_parts info3
  have s1 : (Tryd.prog.info? 3).map (·.size) = some 1 := by rw [hi]; simp [hz1]
  obtain ⟨i1, gi, gz0, gz1, gz2⟩ := info_parts info85
  obtain ⟨k, hk⟩ : ∃ k, k = F.length := ⟨_, rfl⟩
  obtain ⟨q, hq⟩ : ∃ q, q = note nt := ⟨_, rfl⟩
  have hb0 := below1 w (.cells #[.int .i64 part, .int .i64 pc, .int .i64 0, .int .i64 0, .int .i64 0, .int .i64 0, .int .i64 0, .int .i64 0, .int .i64 0, .int .i64 0, .slice none 0 0, .int .i64 q] 85)
  have key : ∀ w3 w' g' c', Below w.heap.size w w3 → (w3.drew.alloc (.cells #[.int .i64 part, .int .i64 pc, .int .i64 x0, .int .i64 x1, .int .i64 0, .int .i64 0, .int .i64 0, .int .i64 0, .int .i64 0, .int .i64 0, .slice none 0 0, .int .i64 q] 85)).grownBy w' (Value.slice ao2 k cp).ownBlock → ((Value.slice (some ⟨g', 0, none⟩) (k + 1) c').ownBlock = (Value.slice ao2 k cp).ownBlock ∨ (Value.slice (some ⟨g', 0, none⟩) (k + 1) c').ownBlock = some (w3.drew.alloc (.cells #[.int .i64 part, .int .i64 pc, .int .i64 x0, .int .i64 x1, .int .i64 0, .int .i64 0, .int .i64 0, .int .i64 0, .int .i64 0, .int .i64 0, .slice none 0 0, .int .i64 q] 85)).heap.size) →
      w'.ownsRow 0 85 12 (.slice (some ⟨g', 0, none⟩) (k + 1) c') (k + 1) (flat F ++ [.int .i64 part, .int .i64 pc, .int .i64 x0, .int .i64 x1, .int .i64 0, .int .i64 0, .int .i64 0, .int .i64 0, .int .i64 0, .int .i64 0, .slice none 0 0, .int .i64 q]) → ∃ own' v', Inv own' w1 (w'.setCell ⟨R, 2, none⟩ (.slice (some ⟨g', 0, none⟩) (k + 1) c')) R D pS lS v' vT vC fuel (({ part := part, pc := pc, locals := pad [x0, x1], words := [], noted := nt }, .slice none 0 0) :: F) [] data told C := by
    intro w3 w' g' c' hb hg hn ho
    rw [hk] at hg hn ho ⊢
    exact ⟨_, _, Inv.enter_set (g := { part := part, pc := pc, locals := pad [x0, x1], words := [], noted := nt }) ((keep w3 hb).moves ((Moves.drew own w3 _).trans (Moves.alloc own w3.drew _ _))) rfl rfl hg hn (by rw [hq] at ho; exact ho)⟩
  have rowF : ∀ w3, Below w.heap.size w w3 → (w3.drew.alloc (.cells #[.int .i64 part, .int .i64 pc, .int .i64 x0, .int .i64 x1, .int .i64 0, .int .i64 0, .int .i64 0, .int .i64 0, .int .i64 0, .int .i64 0, .slice none 0 0, .int .i64 q] 85)).ownsRow 0 85 12 (.slice ao2 k cp) k (flat F) := by
    intro w3 hb
    rw [hk]
    exact ((keep w3 hb).moves ((Moves.drew own w3 _).trans (Moves.alloc own w3.drew _ _))).frames.row
  have runR : ∀ w3 w', Below w.heap.size w w3 → (w3.drew.alloc (.cells #[.int .i64 part, .int .i64 pc, .int .i64 x0, .int .i64 x1, .int .i64 0, .int .i64 0, .int .i64 0, .int .i64 0, .int .i64 0, .int .i64 0, .slice none 0 0, .int .i64 q] 85)).grownBy w' (Value.slice ao2 k cp).ownBlock → w'.cell? ⟨R, 2, none⟩ = some (.slice ao2 k cp) ∧ w'.frozen? ⟨R, 2, none⟩ = false := by
    intro w3 w' hb hg
    have h3 := (keep w3 hb).moves ((Moves.drew own w3 _).trans (Moves.alloc own w3.drew (.cells #[.int .i64 part, .int .i64 pc, .int .i64 x0, .int .i64 x1, .int .i64 0, .int .i64 0, .int .i64 0, .int .i64 0, .int .i64 0, .int .i64 0, .slice none 0 0, .int .i64 q] 85) (9, 9)))
    rw [hk] at hg ⊢
    have hr := h3.run.moves (Moves.grown (t := (3, 0)) h3.frames.tag hg) (by decide)
    exact ⟨hr.cell 2 rfl, hr.frozen 2⟩
  have run3 : ∀ w3, Below w.heap.size w w3 → w3.cell? ⟨R, 2, none⟩ = some (.slice ao2 k cp) := by
    intro w3 hb
    rw [hk]
    exact (keep w3 hb).run.cell 2 rfl
  have hRlt : ∀ w3, Below w.heap.size w w3 → R < w3.heap.size := fun w3 hb => (keep w3 hb).run.lt
  rw [← hk] at c2 hFI hne hF
  rw [← hq]
  have KEY : Hid _ := key
  have ROW : Hid _ := rowF
  have RUN : Hid _ := runR
  have RUN3 : Hid _ := run3
  have SRC : Hid _ := src'
  have HB0 : Hid _ := hb0
  have RLT : Hid _ := hRlt
  clear h hk hq key rowF runR run3 src src' hb0 keep hRlt
  go_enter Tryd.func24, Tryd.ntmps24
  go_wp2_with ((with_reducible show wpList _ _ _ ({ dst := some 25, op := _, type := _, pos := _, after := _, guard := _ } :: _) _ _); refine wpList_copy_splice rfl (.tmp 23) (.tmp 24) 29 29 rfl 3 Tryd.underlying29 s1 (some ⟨w.heap.size, 2, none⟩) ao 8 8 2 c rfl rfl w.heap.size 2 [.int .i64 part, .int .i64 pc, .int .i64 0, .int .i64 0, .int .i64 0, .int .i64 0, .int .i64 0, .int .i64 0, .int .i64 0, .int .i64 0, .slice none 0 0, .int .i64 q] 85 (heap_alloc_new w _) [.int .i64 x0, .int .i64 x1] rfl (fun hp => ⟨rfl, SRC.out _ HB0.out hp⟩) (by simp) (ints_oneCell .i64 [x0, x1]) w.heap.size w HB0.out (Nat.le_refl _) ?_; intro w3 hg3 hb3; have c3 := RUN3.out w3 hb3; have r3 := RLT.out w3 hb3; have hg3' : w3.heap[w.heap.size]? = some (.cells #[.int .i64 part, .int .i64 pc, .int .i64 x0, .int .i64 x1, .int .i64 0, .int .i64 0, .int .i64 0, .int .i64 0, .int .i64 0, .int .i64 0, .slice none 0 0, .int .i64 q] 85 (0, 0)) := hg3.out)
  have HG3 : Hid _ := hg3'
  have HB3 : Hid _ := hb3
  have e0 : ∀ j u, ([.int .i64 part, .int .i64 pc, .int .i64 x0, .int .i64 x1, .int .i64 0, .int .i64 0, .int .i64 0, .int .i64 0, .int .i64 0, .int .i64 0, .slice none 0 0, .int .i64 q] : List Value)[j]? = some u → w3.cell? ⟨w.heap.size, j, none⟩ = some u := fun j u hu => (cell_of_row w3 _ j _ _ _ HG3.out).trans (by simpa using hu)
  clear hg3' hg3 hb3
  have NEW : Hid _ := twelve_new (w := w3.drew) (L := [.int .i64 part, .int .i64 pc, .int .i64 x0, .int .i64 x1, .int .i64 0, .int .i64 0, .int .i64 0, .int .i64 0, .int .i64 0, .int .i64 0, .slice none 0 0, .int .i64 q]) (t := 85)
  have ONE : Hid (∀ u ∈ ([.int .i64 part, .int .i64 pc, .int .i64 x0, .int .i64 x1, .int .i64 0, .int .i64 0, .int .i64 0, .int .i64 0, .int .i64 0, .int .i64 0, .slice none 0 0, .int .i64 q] : List Value), u.oneCell' = true) := by simp [Hid, Value.oneCell']
  go_region_law (refine step_append_fresh (by rfl) (.tmp 30) (.tmp 32) 66 (by rfl) 0 85 i1 _ 12 112 Tryd.underlying66 gi gz0 gz1 gz2 (by rfl) (by decide) (.slice ao2 k cp) k (flat F) (by rfl) (ROW.out w3 HB3.out) ⟨w3.heap.size, 0, none⟩ 1 1 (by decide) [.int .i64 part, .int .i64 pc, .int .i64 x0, .int .i64 x1, .int .i64 0, .int .i64 0, .int .i64 0, .int .i64 0, .int .i64 0, .int .i64 0, .slice none 0 0, .int .i64 q] (by rfl) (by rfl) NEW.out ONE.out (by unfold maxLen; omega) (by omega) (Nat.zero_le _) ?_; intro g' c' w4 ho hg hn; obtain ⟨q0, q1⟩ := RUN.out w3 w4 HB3.out hg; have HGG : Hid _ := hg; have HNN : Hid _ := hn; have HOO : Hid _ := ho; clear hg hn ho)
  all_goals
    go_wp2
    go_ret
    exact ⟨rfl, KEY.out w3 _ _ _ HB3.out HGG.out HNN.out HOO.out⟩

set_option maxRecDepth 100000 in
set_option maxHeartbeats 1000000 in
theorem enter3 (h : Inv own w1 w R D pS lS vF vT vC fuel F l data told C) (x0 x1 x2 : Int) (part pc : Nat) (nt : Option Nat) (ao : Option Addr) (c : Nat) (hF : F.length < 20)
    (src : 0 < 3 → ∃ ad, ao = some ad ∧ ∀ w', Below w.heap.size w w' → ∀ j u, (ints [x0, x1, x2])[j]? = some u → w'.cell? (ad.add j) = some u) :
    Calls Tryd.prog 24 #[.pointer (some ⟨R, 0, none⟩), .int .i64 part, .int .i64 pc, .slice ao 3 c, .int .i64 (note nt)] w fun e w' => e = .returned (.int .i64 0) ∧ ∃ own' v', Inv own' w1 w' R D pS lS v' vT vC fuel (({ part := part, pc := pc, locals := pad [x0, x1, x2], words := [], noted := nt }, .slice none 0 0) :: F) [] data told C := by
  have c2 := h.run.cell 2 (v := vF) rfl
  have keep := fun w' (hb : Below w.heap.size w w') => h.moves (Moves.below (own' := own) hb (fun _ _ => rfl) (9, 9))
  have src' : ∀ w', Below w.heap.size w w' → 0 < 3 → ∃ ad, ao = some ad ∧ ∀ j u, ([.int .i64 x0, .int .i64 x1, .int .i64 x2] : List Value)[j]? = some u → w'.cell? (ad.add j) = some u := fun w' hb hp => (src hp).imp fun ad hd => ⟨hd.1, hd.2 w' hb⟩
  obtain ⟨ao2, cp, rfl⟩ := owned_form h.frames
  have hFI : (F.length : Int) < 20 := by omega
  have hne : ((F.length : Int) == 20) = false := by simp; omega
  obtain ⟨i0, hi, hz0, hz1, hz2⟩ := info_parts info3
  have s1 : (Tryd.prog.info? 3).map (·.size) = some 1 := by rw [hi]; simp [hz1]
  obtain ⟨i1, gi, gz0, gz1, gz2⟩ := info_parts info85
  obtain ⟨k, hk⟩ : ∃ k, k = F.length := ⟨_, rfl⟩
  obtain ⟨q, hq⟩ : ∃ q, q = note nt := ⟨_, rfl⟩
  have hb0 := below1 w (.cells #[.int .i64 part, .int .i64 pc, .int .i64 0, .int .i64 0, .int .i64 0, .int .i64 0, .int .i64 0, .int .i64 0, .int .i64 0, .int .i64 0, .slice none 0 0, .int .i64 q] 85)
  have key : ∀ w3 w' g' c', Below w.heap.size w w3 → (w3.drew.alloc (.cells #[.int .i64 part, .int .i64 pc, .int .i64 x0, .int .i64 x1, .int .i64 x2, .int .i64 0, .int .i64 0, .int .i64 0, .int .i64 0, .int .i64 0, .slice none 0 0, .int .i64 q] 85)).grownBy w' (Value.slice ao2 k cp).ownBlock → ((Value.slice (some ⟨g', 0, none⟩) (k + 1) c').ownBlock = (Value.slice ao2 k cp).ownBlock ∨ (Value.slice (some ⟨g', 0, none⟩) (k + 1) c').ownBlock = some (w3.drew.alloc (.cells #[.int .i64 part, .int .i64 pc, .int .i64 x0, .int .i64 x1, .int .i64 x2, .int .i64 0, .int .i64 0, .int .i64 0, .int .i64 0, .int .i64 0, .slice none 0 0, .int .i64 q] 85)).heap.size) →
      w'.ownsRow 0 85 12 (.slice (some ⟨g', 0, none⟩) (k + 1) c') (k + 1) (flat F ++ [.int .i64 part, .int .i64 pc, .int .i64 x0, .int .i64 x1, .int .i64 x2, .int .i64 0, .int .i64 0, .int .i64 0, .int .i64 0, .int .i64 0, .slice none 0 0, .int .i64 q]) → ∃ own' v', Inv own' w1 (w'.setCell ⟨R, 2, none⟩ (.slice (some ⟨g', 0, none⟩) (k + 1) c')) R D pS lS v' vT vC fuel (({ part := part, pc := pc, locals := pad [x0, x1, x2], words := [], noted := nt }, .slice none 0 0) :: F) [] data told C := by
    intro w3 w' g' c' hb hg hn ho
    rw [hk] at hg hn ho ⊢
    exact ⟨_, _, Inv.enter_set (g := { part := part, pc := pc, locals := pad [x0, x1, x2], words := [], noted := nt }) ((keep w3 hb).moves ((Moves.drew own w3 _).trans (Moves.alloc own w3.drew _ _))) rfl rfl hg hn (by rw [hq] at ho; exact ho)⟩
  have rowF : ∀ w3, Below w.heap.size w w3 → (w3.drew.alloc (.cells #[.int .i64 part, .int .i64 pc, .int .i64 x0, .int .i64 x1, .int .i64 x2, .int .i64 0, .int .i64 0, .int .i64 0, .int .i64 0, .int .i64 0, .slice none 0 0, .int .i64 q] 85)).ownsRow 0 85 12 (.slice ao2 k cp) k (flat F) := by
    intro w3 hb
    rw [hk]
    exact ((keep w3 hb).moves ((Moves.drew own w3 _).trans (Moves.alloc own w3.drew _ _))).frames.row
  have runR : ∀ w3 w', Below w.heap.size w w3 → (w3.drew.alloc (.cells #[.int .i64 part, .int .i64 pc, .int .i64 x0, .int .i64 x1, .int .i64 x2, .int .i64 0, .int .i64 0, .int .i64 0, .int .i64 0, .int .i64 0, .slice none 0 0, .int .i64 q] 85)).grownBy w' (Value.slice ao2 k cp).ownBlock → w'.cell? ⟨R, 2, none⟩ = some (.slice ao2 k cp) ∧ w'.frozen? ⟨R, 2, none⟩ = false := by
    intro w3 w' hb hg
    have h3 := (keep w3 hb).moves ((Moves.drew own w3 _).trans (Moves.alloc own w3.drew (.cells #[.int .i64 part, .int .i64 pc, .int .i64 x0, .int .i64 x1, .int .i64 x2, .int .i64 0, .int .i64 0, .int .i64 0, .int .i64 0, .int .i64 0, .slice none 0 0, .int .i64 q] 85) (9, 9)))
    rw [hk] at hg ⊢
    have hr := h3.run.moves (Moves.grown (t := (3, 0)) h3.frames.tag hg) (by decide)
    exact ⟨hr.cell 2 rfl, hr.frozen 2⟩
  have run3 : ∀ w3, Below w.heap.size w w3 → w3.cell? ⟨R, 2, none⟩ = some (.slice ao2 k cp) := by
    intro w3 hb
    rw [hk]
    exact (keep w3 hb).run.cell 2 rfl
  have hRlt : ∀ w3, Below w.heap.size w w3 → R < w3.heap.size := fun w3 hb => (keep w3 hb).run.lt
  rw [← hk] at c2 hFI hne hF
  rw [← hq]
  have KEY : Hid _ := key
  have ROW : Hid _ := rowF
  have RUN : Hid _ := runR
  have RUN3 : Hid _ := run3
  have SRC : Hid _ := src'
  have HB0 : Hid _ := hb0
  have RLT : Hid _ := hRlt
  clear h hk hq key rowF runR run3 src src' hb0 keep hRlt
  go_enter Tryd.func24, Tryd.ntmps24
  go_wp2_with ((with_reducible show wpList _ _ _ ({ dst := some 25, op := _, type := _, pos := _, after := _, guard := _ } :: _) _ _); refine wpList_copy_splice rfl (.tmp 23) (.tmp 24) 29 29 rfl 3 Tryd.underlying29 s1 (some ⟨w.heap.size, 2, none⟩) ao 8 8 3 c rfl rfl w.heap.size 2 [.int .i64 part, .int .i64 pc, .int .i64 0, .int .i64 0, .int .i64 0, .int .i64 0, .int .i64 0, .int .i64 0, .int .i64 0, .int .i64 0, .slice none 0 0, .int .i64 q] 85 (heap_alloc_new w _) [.int .i64 x0, .int .i64 x1, .int .i64 x2] rfl (fun hp => ⟨rfl, SRC.out _ HB0.out hp⟩) (by simp) (ints_oneCell .i64 [x0, x1, x2]) w.heap.size w HB0.out (Nat.le_refl _) ?_; intro w3 hg3 hb3; have c3 := RUN3.out w3 hb3; have r3 := RLT.out w3 hb3; have hg3' : w3.heap[w.heap.size]? = some (.cells #[.int .i64 part, .int .i64 pc, .int .i64 x0, .int .i64 x1, .int .i64 x2, .int .i64 0, .int .i64 0, .int .i64 0, .int .i64 0, .int .i64 0, .slice none 0 0, .int .i64 q] 85 (0, 0)) := hg3.out)
  have HG3 : Hid _ := hg3'
  have HB3 : Hid _ := hb3
  have e0 : ∀ j u, ([.int .i64 part, .int .i64 pc, .int .i64 x0, .int .i64 x1, .int .i64 x2, .int .i64 0, .int .i64 0, .int .i64 0, .int .i64 0, .int .i64 0, .slice none 0 0, .int .i64 q] : List Value)[j]? = some u → w3.cell? ⟨w.heap.size, j, none⟩ = some u := fun j u hu => (cell_of_row w3 _ j _ _ _ HG3.out).trans (by simpa using hu)
  clear hg3' hg3 hb3
  have NEW : Hid _ := twelve_new (w := w3.drew) (L := [.int .i64 part, .int .i64 pc, .int .i64 x0, .int .i64 x1, .int .i64 x2, .int .i64 0, .int .i64 0, .int .i64 0, .int .i64 0, .int .i64 0, .slice none 0 0, .int .i64 q]) (t := 85)
  have ONE : Hid (∀ u ∈ ([.int .i64 part, .int .i64 pc, .int .i64 x0, .int .i64 x1, .int .i64 x2, .int .i64 0, .int .i64 0, .int .i64 0, .int .i64 0, .int .i64 0, .slice none 0 0, .int .i64 q] : List Value), u.oneCell' = true) := by simp [Hid, Value.oneCell']
  go_region_law (refine step_append_fresh (by rfl) (.tmp 30) (.tmp 32) 66 (by rfl) 0 85 i1 _ 12 112 Tryd.underlying66 gi gz0 gz1 gz2 (by rfl) (by decide) (.slice ao2 k cp) k (flat F) (by rfl) (ROW.out w3 HB3.out) ⟨w3.heap.size, 0, none⟩ 1 1 (by decide) [.int .i64 part, .int .i64 pc, .int .i64 x0, .int .i64 x1, .int .i64 x2, .int .i64 0, .int .i64 0, .int .i64 0, .int .i64 0, .int .i64 0, .slice none 0 0, .int .i64 q] (by rfl) (by rfl) NEW.out ONE.out (by unfold maxLen; omega) (by omega) (Nat.zero_le _) ?_; intro g' c' w4 ho hg hn; obtain ⟨q0, q1⟩ := RUN.out w3 w4 HB3.out hg; have HGG : Hid _ := hg; have HNN : Hid _ := hn; have HOO : Hid _ := ho; clear hg hn ho)
  all_goals
    go_wp2
    go_ret
    exact ⟨rfl, KEY.out w3 _ _ _ HB3.out HGG.out HNN.out HOO.out⟩

set_option maxRecDepth 100000 in
set_option maxHeartbeats 1000000 in
theorem enter4 (h : Inv own w1 w R D pS lS vF vT vC fuel F l data told C) (x0 x1 x2 x3 : Int) (part pc : Nat) (nt : Option Nat) (ao : Option Addr) (c : Nat) (hF : F.length < 20)
    (src : 0 < 4 → ∃ ad, ao = some ad ∧ ∀ w', Below w.heap.size w w' → ∀ j u, (ints [x0, x1, x2, x3])[j]? = some u → w'.cell? (ad.add j) = some u) :
    Calls Tryd.prog 24 #[.pointer (some ⟨R, 0, none⟩), .int .i64 part, .int .i64 pc, .slice ao 4 c, .int .i64 (note nt)] w fun e w' => e = .returned (.int .i64 0) ∧ ∃ own' v', Inv own' w1 w' R D pS lS v' vT vC fuel (({ part := part, pc := pc, locals := pad [x0, x1, x2, x3], words := [], noted := nt }, .slice none 0 0) :: F) [] data told C := by
  have c2 := h.run.cell 2 (v := vF) rfl
  have keep := fun w' (hb : Below w.heap.size w w') => h.moves (Moves.below (own' := own) hb (fun _ _ => rfl) (9, 9))
  have src' : ∀ w', Below w.heap.size w w' → 0 < 4 → ∃ ad, ao = some ad ∧ ∀ j u, ([.int .i64 x0, .int .i64 x1, .int .i64 x2, .int .i64 x3] : List Value)[j]? = some u → w'.cell? (ad.add j) = some u := fun w' hb hp => (src hp).imp fun ad hd => ⟨hd.1, hd.2 w' hb⟩
  obtain ⟨ao2, cp, rfl⟩ := owned_form h.frames
  have hFI : (F.length : Int) < 20 := by omega
  have hne : ((F.length : Int) == 20) = false := by simp; omega
  obtain ⟨i0, hi, hz0, hz1, hz2⟩ := info_parts info3
  have s1 : (Tryd.prog.info? 3).map (·.size) = some 1 := by rw [hi]; simp [hz1]
  obtain ⟨i1, gi, gz0, gz1, gz2⟩ := info_parts info85
  obtain ⟨k, hk⟩ : ∃ k, k = F.length := ⟨_, rfl⟩
  obtain ⟨q, hq⟩ : ∃ q, q = note nt := ⟨_, rfl⟩
  have hb0 := below1 w (.cells #[.int .i64 part, .int .i64 pc, .int .i64 0, .int .i64 0, .int .i64 0, .int .i64 0, .int .i64 0, .int .i64 0, .int .i64 0, .int .i64 0, .slice none 0 0, .int .i64 q] 85)
  have key : ∀ w3 w' g' c', Below w.heap.size w w3 → (w3.drew.alloc (.cells #[.int .i64 part, .int .i64 pc, .int .i64 x0, .int .i64 x1, .int .i64 x2, .int .i64 x3, .int .i64 0, .int .i64 0, .int .i64 0, .int .i64 0, .slice none 0 0, .int .i64 q] 85)).grownBy w' (Value.slice ao2 k cp).ownBlock → ((Value.slice (some ⟨g', 0, none⟩) (k + 1) c').ownBlock = (Value.slice ao2 k cp).ownBlock ∨ (Value.slice (some ⟨g', 0, none⟩) (k + 1) c').ownBlock = some (w3.drew.alloc (.cells #[.int .i64 part, .int .i64 pc, .int .i64 x0, .int .i64 x1, .int .i64 x2, .int .i64 x3, .int .i64 0, .int .i64 0, .int .i64 0, .int .i64 0, .slice none 0 0, .int .i64 q] 85)).heap.size) →
      w'.ownsRow 0 85 12 (.slice (some ⟨g', 0, none⟩) (k + 1) c') (k + 1) (flat F ++ [.int .i64 part, .int .i64 pc, .int .i64 x0, .int .i64 x1, .int .i64 x2, .int .i64 x3, .int .i64 0, .int .i64 0, .int .i64 0, .int .i64 0, .slice none 0 0, .int .i64 q]) → ∃ own' v', Inv own' w1 (w'.setCell ⟨R, 2, none⟩ (.slice (some ⟨g', 0, none⟩) (k + 1) c')) R D pS lS v' vT vC fuel (({ part := part, pc := pc, locals := pad [x0, x1, x2, x3], words := [], noted := nt }, .slice none 0 0) :: F) [] data told C := by
    intro w3 w' g' c' hb hg hn ho
    rw [hk] at hg hn ho ⊢
    exact ⟨_, _, Inv.enter_set (g := { part := part, pc := pc, locals := pad [x0, x1, x2, x3], words := [], noted := nt }) ((keep w3 hb).moves ((Moves.drew own w3 _).trans (Moves.alloc own w3.drew _ _))) rfl rfl hg hn (by rw [hq] at ho; exact ho)⟩
  have rowF : ∀ w3, Below w.heap.size w w3 → (w3.drew.alloc (.cells #[.int .i64 part, .int .i64 pc, .int .i64 x0, .int .i64 x1, .int .i64 x2, .int .i64 x3, .int .i64 0, .int .i64 0, .int .i64 0, .int .i64 0, .slice none 0 0, .int .i64 q] 85)).ownsRow 0 85 12 (.slice ao2 k cp) k (flat F) := by
    intro w3 hb
    rw [hk]
    exact ((keep w3 hb).moves ((Moves.drew own w3 _).trans (Moves.alloc own w3.drew _ _))).frames.row
  have runR : ∀ w3 w', Below w.heap.size w w3 → (w3.drew.alloc (.cells #[.int .i64 part, .int .i64 pc, .int .i64 x0, .int .i64 x1, .int .i64 x2, .int .i64 x3, .int .i64 0, .int .i64 0, .int .i64 0, .int .i64 0, .slice none 0 0, .int .i64 q] 85)).grownBy w' (Value.slice ao2 k cp).ownBlock → w'.cell? ⟨R, 2, none⟩ = some (.slice ao2 k cp) ∧ w'.frozen? ⟨R, 2, none⟩ = false := by
    intro w3 w' hb hg
    have h3 := (keep w3 hb).moves ((Moves.drew own w3 _).trans (Moves.alloc own w3.drew (.cells #[.int .i64 part, .int .i64 pc, .int .i64 x0, .int .i64 x1, .int .i64 x2, .int .i64 x3, .int .i64 0, .int .i64 0, .int .i64 0, .int .i64 0, .slice none 0 0, .int .i64 q] 85) (9, 9)))
    rw [hk] at hg ⊢
    have hr := h3.run.moves (Moves.grown (t := (3, 0)) h3.frames.tag hg) (by decide)
    exact ⟨hr.cell 2 rfl, hr.frozen 2⟩
  have run3 : ∀ w3, Below w.heap.size w w3 → w3.cell? ⟨R, 2, none⟩ = some (.slice ao2 k cp) := by
    intro w3 hb
    rw [hk]
    exact (keep w3 hb).run.cell 2 rfl
  have hRlt : ∀ w3, Below w.heap.size w w3 → R < w3.heap.size := fun w3 hb => (keep w3 hb).run.lt
  rw [← hk] at c2 hFI hne hF
  rw [← hq]
  have KEY : Hid _ := key
  have ROW : Hid _ := rowF
  have RUN : Hid _ := runR
  have RUN3 : Hid _ := run3
  have SRC : Hid _ := src'
  have HB0 : Hid _ := hb0
  have RLT : Hid _ := hRlt
  clear h hk hq key rowF runR run3 src src' hb0 keep hRlt
  go_enter Tryd.func24, Tryd.ntmps24
  go_wp2_with ((with_reducible show wpList _ _ _ ({ dst := some 25, op := _, type := _, pos := _, after := _, guard := _ } :: _) _ _); refine wpList_copy_splice rfl (.tmp 23) (.tmp 24) 29 29 rfl 3 Tryd.underlying29 s1 (some ⟨w.heap.size, 2, none⟩) ao 8 8 4 c rfl rfl w.heap.size 2 [.int .i64 part, .int .i64 pc, .int .i64 0, .int .i64 0, .int .i64 0, .int .i64 0, .int .i64 0, .int .i64 0, .int .i64 0, .int .i64 0, .slice none 0 0, .int .i64 q] 85 (heap_alloc_new w _) [.int .i64 x0, .int .i64 x1, .int .i64 x2, .int .i64 x3] rfl (fun hp => ⟨rfl, SRC.out _ HB0.out hp⟩) (by simp) (ints_oneCell .i64 [x0, x1, x2, x3]) w.heap.size w HB0.out (Nat.le_refl _) ?_; intro w3 hg3 hb3; have c3 := RUN3.out w3 hb3; have r3 := RLT.out w3 hb3; have hg3' : w3.heap[w.heap.size]? = some (.cells #[.int .i64 part, .int .i64 pc, .int .i64 x0, .int .i64 x1, .int .i64 x2, .int .i64 x3, .int .i64 0, .int .i64 0, .int .i64 0, .int .i64 0, .slice none 0 0, .int .i64 q] 85 (0, 0)) := hg3.out)
  have HG3 : Hid _ := hg3'
  have HB3 : Hid _ := hb3
  have e0 : ∀ j u, ([.int .i64 part, .int .i64 pc, .int .i64 x0, .int .i64 x1, .int .i64 x2, .int .i64 x3, .int .i64 0, .int .i64 0, .int .i64 0, .int .i64 0, .slice none 0 0, .int .i64 q] : List Value)[j]? = some u → w3.cell? ⟨w.heap.size, j, none⟩ = some u := fun j u hu => (cell_of_row w3 _ j _ _ _ HG3.out).trans (by simpa using hu)
  clear hg3' hg3 hb3
  have NEW : Hid _ := twelve_new (w := w3.drew) (L := [.int .i64 part, .int .i64 pc, .int .i64 x0, .int .i64 x1, .int .i64 x2, .int .i64 x3, .int .i64 0, .int .i64 0, .int .i64 0, .int .i64 0, .slice none 0 0, .int .i64 q]) (t := 85)
  have ONE : Hid (∀ u ∈ ([.int .i64 part, .int .i64 pc, .int .i64 x0, .int .i64 x1, .int .i64 x2, .int .i64 x3, .int .i64 0, .int .i64 0, .int .i64 0, .int .i64 0, .slice none 0 0, .int .i64 q] : List Value), u.oneCell' = true) := by simp [Hid, Value.oneCell']
  go_region_law (refine step_append_fresh (by rfl) (.tmp 30) (.tmp 32) 66 (by rfl) 0 85 i1 _ 12 112 Tryd.underlying66 gi gz0 gz1 gz2 (by rfl) (by decide) (.slice ao2 k cp) k (flat F) (by rfl) (ROW.out w3 HB3.out) ⟨w3.heap.size, 0, none⟩ 1 1 (by decide) [.int .i64 part, .int .i64 pc, .int .i64 x0, .int .i64 x1, .int .i64 x2, .int .i64 x3, .int .i64 0, .int .i64 0, .int .i64 0, .int .i64 0, .slice none 0 0, .int .i64 q] (by rfl) (by rfl) NEW.out ONE.out (by unfold maxLen; omega) (by omega) (Nat.zero_le _) ?_; intro g' c' w4 ho hg hn; obtain ⟨q0, q1⟩ := RUN.out w3 w4 HB3.out hg; have HGG : Hid _ := hg; have HNN : Hid _ := hn; have HOO : Hid _ := ho; clear hg hn ho)
  all_goals
    go_wp2
    go_ret
    exact ⟨rfl, KEY.out w3 _ _ _ HB3.out HGG.out HNN.out HOO.out⟩

theorem enter (h : Inv own w1 w R D pS lS vF vT vC fuel F l data told C) (xs : List Int) (hx : xs.length ≤ 4) (part pc : Nat) (nt : Option Nat) (ao : Option Addr) (c : Nat) (hF : F.length < 20)
    (src : 0 < xs.length → ∃ ad, ao = some ad ∧ ∀ w', Below w.heap.size w w' → ∀ j u, (ints xs)[j]? = some u → w'.cell? (ad.add j) = some u) :
    Calls Tryd.prog 24 #[.pointer (some ⟨R, 0, none⟩), .int .i64 part, .int .i64 pc, .slice ao xs.length c, .int .i64 (note nt)] w fun e w' => e = .returned (.int .i64 0) ∧ ∃ own' v', Inv own' w1 w' R D pS lS v' vT vC fuel (({ part := part, pc := pc, locals := pad xs, words := [], noted := nt }, .slice none 0 0) :: F) [] data told C := by
  match xs, hx, src with
  | [], _, src => exact enter0 h part pc nt ao c hF src
  | [x0], _, src => exact enter1 h x0 part pc nt ao c hF src
  | [x0, x1], _, src => exact enter2 h x0 x1 part pc nt ao c hF src
  | [x0, x1, x2], _, src => exact enter3 h x0 x1 x2 part pc nt ao c hF src
  | [x0, x1, x2, x3], _, src => exact enter4 h x0 x1 x2 x3 part pc nt ao c hF src
  | _ :: _ :: _ :: _ :: _ :: _, hx, _ => simp at hx
end
end Go.Proofs.YtmbbkabecipkaacDoor.Enter
