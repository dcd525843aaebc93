/-
  WHAT mach.step GIVES, at every instruction but Call and a Gate that goes through: a step of the plain machine.
  Conditions: the run lies there; the image may be.
  A STEP OF mach IS A STEP OF THE PLAIN MACHINE, at every instruction but Call and a Gate that goes through; what holds between steps stays.
  Conditions: the run lies there; the image may be.
-/
import Derived.Test.YtmbbkabecipkaacDoorWhole11
namespace Go.Proofs.YtmbbkabecipkaacDoor.Step
open Go.RowKit Tab Go.Proofs.YtmbbkabecipkaacDoor.Check Lists Img Mach Own Go.Proofs.YtmbbkabecipkaacDoor.Inv Go.Proofs.YtmbbkabecipkaacDoor.Frame Take Go.Proofs.YtmbbkabecipkaacDoor.Went ActE ActQ

section
variable {own : Nat → Tag} {w1 w : World} {R D g cap : Nat} {pS lS vF vT vC : Value} {fuel : Int} {f : Fr} {v : Value} {F : List (Fr × Value)} {l data told : List Int} {C : List (Rec × Value)} {gL len capL capP : Nat} {P : Nat → PartD} {ao : Option Addr}

set_option maxRecDepth 100000 in
theorem take2 (h : Inv own w1 w R D pS lS (.slice (some ⟨g, 0, none⟩) (F.length + 1) cap) vT vC fuel ((f, v) :: F) [] data told C) (m : Nat) (hm : m ≤ 4) (hw : f.words.length ≤ 40) (hf : m ≤ f.words.length) :
    Calls Tryd.prog 37 #[.pointer (some ⟨g, F.length * 12, none⟩), .int .i64 m] w fun e w' => ∃ tv, e = .returned (.tuple #[tv, .bool true]) ∧ ∃ v', Cut v' tv m ∧ Inv own w1 w' R D pS lS (.slice (some ⟨g, 0, none⟩) (F.length + 1) cap) vT vC fuel (({ f with words := f.words.take (f.words.length - m) }, v') :: F) (f.words.drop (f.words.length - m)) data told C ∧ w' = w.setCell ⟨g, F.length * 12 + 10, none⟩ v' := by
  have c10 := h.top_cell 10 (u := v) (by simp [frCells, ints, h.rooms.1.2])
  have z10 := h.top_frozen (F.length * 12 + 10)
  have hW := h.rooms.1.1
  have h8 := h.rooms.1.2
  have key := fun v' hv => h.top_set (f' := { f with words := f.words.take (f.words.length - m) }) (v' := v') (l' := f.words.drop (f.words.length - m)) 10 v' (frCells_words h8 _ _) ⟨hW.take m hf hv, h8⟩
  rcases hW with ⟨rfl, hn, _⟩ | ⟨gw, cp, cur, rfl, ht, hg, h1, h2, h3, h4⟩
  · have m0 : m = 0 := by rw [hn] at hf; simpa using hf
    subst m0
    have KEY : Hid _ := key
    clear h key hn hf hm hw
    go_enter Tryd.func37, Tryd.ntmps37
    go_wp2
    go_ret2
    exact ⟨_, rfl, _, ⟨none, 0, rfl, fun h => absurd h (by omega)⟩, (by simpa using (KEY.out (.slice none 0 0) ⟨fun _ => rfl, fun g cap e => by cases e⟩)), rfl⟩
  · have hmI : (m : Int) ≤ 4 := by omega
    have hwI : (f.words.length : Int) ≤ 40 := by omega
    have hfI : (m : Int) ≤ f.words.length := by omega
    have h1' : f.words.length ≤ cp := by simpa using h1
    have hcI : (f.words.length : Int) ≤ cp := by omega
    have h2I : (cp : Int) ≤ 9223372036854775807 := by unfold maxLen at h2; omega
    obtain ⟨n, hn⟩ : ∃ n, n = f.words.length := ⟨_, rfl⟩
    have HN : Hid _ := hn
    have em' : n - (n - m) = m := by omega
    rw [← hn] at c10 hwI hfI hcI h1' hf
    have KEY : Hid _ := key
    have em : Hid (n - (n - m) = m) := em'
    clear h key hn hm hw hg h1 h3 h4 ht h2 h8 em'
    go_enter Tryd.func37, Tryd.ntmps37
    go_wp2
    · go_ret2
      have m0 : m = 0 := by omega
      refine ⟨_, rfl, _, ⟨some ⟨gw, 0, none⟩, 0, by rw [em.out]; rfl, fun h => absurd h (by omega)⟩, KEY.out _ ⟨fun e => (by cases e), fun g cap e => ?_⟩, rfl⟩
      simp only [Value.slice.injEq, Option.some.injEq, Addr.mk.injEq] at e
      obtain ⟨⟨rfl, _⟩, _, rfl⟩ := e
      rw [show cp = n - m by assumption, HN.out]
    · go_ret2
      refine ⟨_, rfl, _, ⟨some ⟨gw, n - m, none⟩, cp - (n - m), by rw [em.out]; rfl, fun _ => ⟨gw, n - m, cp, rfl, rfl⟩⟩, KEY.out _ ⟨fun e => (by cases e), fun g cap e => ?_⟩, rfl⟩
      simp only [Value.slice.injEq, Option.some.injEq, Addr.mk.injEq] at e
      obtain ⟨⟨rfl, _⟩, _, rfl⟩ := e
      rw [HN.out]

theorem spent (h : Inv own w1 w R D pS lS vF vT vC 0 F l data told C) :
    Calls Tryd.prog 25 #[.pointer (some ⟨R, 0, none⟩)] w fun e w' => e = .returned (.int .i64 3) ∧ w' = w := by
  have c3 : w.cell? ⟨R, 3, none⟩ = some (.int .i64 0) := h.run.cell 3 rfl
  clear h
  go_enter Tryd.func25, Tryd.ntmps25
  go_wp2
  go_ret
  exact ⟨rfl, rfl⟩

theorem needs_le {op a b c : Int} (h : fault op a b c = 0) : needs op b c ≤ 4 := by
  obtain ⟨⟨o1, o15⟩, _, ⟨_, b1⟩, ⟨_, c1⟩⟩ := fault_zero h
  rcases (show op = 1 ∨ op = 2 ∨ op = 3 ∨ op = 4 ∨ op = 5 ∨ op = 6 ∨ op = 7 ∨ op = 8 ∨ op = 9 ∨ op = 10 ∨ op = 11 ∨ op = 12 ∨ op = 13 ∨ op = 14 ∨ op = 15 by omega) with rfl | rfl | rfl | rfl | rfl | rfl | rfl | rfl | rfl | rfl | rfl | rfl | rfl | rfl | rfl
  all_goals (simp [needs]; try (simp [row, rows] at b1 c1; omega))

theorem box_in {W w5 : World} {n : Nat} {v0 v1 v2 v3 : Value} {t : TypeId} (hn : W.heap.size = n) (hb : Below (W.alloc (.cells #[v0, v1, v2, v3] t)).heap.size (W.alloc (.cells #[v0, v1, v2, v3] t)) w5) :
    w5.cell? ⟨n, 0, none⟩ = some v0 ∧ w5.cell? ⟨n, 1, none⟩ = some v1 ∧ w5.cell? ⟨n, 2, none⟩ = some v2 ∧ w5.cell? ⟨n, 3, none⟩ = some v3 := by
  subst hn
  exact box4 hb

/-- what is read of the code, in whatever later world -/
theorem code_at (h : Inv own w1 w R D (.slice ao len capP) lS vF vT vC fuel F l data told C) (hS : Sure w1 R D ao gL len data.length P) {p : Nat} (hp : p < len) : ∃ bl off, ao = some ⟨bl, off, none⟩ ∧ w.cell? ⟨bl, off + p * 4, none⟩ = some (.slice (P p).ca (P p).cl (P p).cc) ∧ Instrs w (P p).ca (P p).cl (P p).o (P p).a (P p).b (P p).c := by
  have hin := parts_of h hS.kept w (Below.refl _ _)
  obtain ⟨⟨bl, off, e, t0, _⟩, hl, _⟩ := hin p hp
  exact ⟨bl, off, e, t0, hl⟩

set_option maxRecDepth 100000 in
set_option maxHeartbeats 1000000 in
theorem behind (n : Nat) (hn : n ≤ 100000) (h : Inv own w1 w R D (.slice ao len capP) lS (.slice (some ⟨g, 0, none⟩) (F.length + 1) cap) vT vC ((n : Int) + 1) ((f, v) :: F) [] data told C) (hS : Sure w1 R D ao gL len data.length P) (hp : f.part < len) (hF : F.length + 1 ≤ 20) (hpc : ¬ f.pc < (P f.part).cl) :
    Calls Tryd.prog 25 #[.pointer (some ⟨R, 0, none⟩)] w fun e w' => e = .returned (.int .i64 4) ∧ ∃ own', Inv own' w1 w' R D (.slice ao len capP) lS (.slice (some ⟨g, 0, none⟩) (F.length + 1) cap) vT vC n ((f, v) :: F) [] data told C := by
  have c3 : w.cell? ⟨R, 3, none⟩ = some (.int .i64 ((n : Int) + 1)) := h.run.cell 3 rfl
  have z3 := h.run.frozen 3
  have hI := h.fuel_set n
  have k36 := fun w c => last R g (F.length + 1) F.length cap w (by omega) (by omega) hF c
  obtain ⟨bl, off, rfl, t0, _⟩ := code_at hI hS hp
  have c2 := hI.run.cell 2 (v := .slice (some ⟨g, 0, none⟩) (F.length + 1) cap) rfl
  have c0 := hI.run.cell 0 (v := .slice (some ⟨bl, off, none⟩) len capP) rfl
  have cp : (w.setCell ⟨R, 3, none⟩ (.int .i64 n)).cell? ⟨g, F.length * 12, none⟩ = some (.int .i64 f.part) := hI.top_cell 0 rfl
  have ca := hI.top_cell 1 (u := .int .i64 f.pc) rfl
  have hcl := hS.cl1200 _ hp
  have hpI : (f.part : Int) < len := by omega
  have hlI : (len : Int) ≤ 5 := by have := hS.len5; omega
  have hpcI : ((P f.part).cl : Int) ≤ f.pc := by omega
  have hnI : (n : Int) ≤ 100000 := by omega
  have hn0 : (((n : Int) + 1) == 0) = false := by simp; omega
  obtain ⟨p, ep⟩ : ∃ p, p = f.part := ⟨_, rfl⟩
  obtain ⟨q, eq⟩ : ∃ q, q = f.pc := ⟨_, rfl⟩
  rw [← ep] at t0 cp hpI hpcI hcl
  rw [← eq] at ca hpcI
  obtain ⟨cl, ecl⟩ : ∃ x, x = (P p).cl := ⟨_, rfl⟩
  rw [← ecl] at t0 hpcI hcl
  have hclI : (cl : Int) ≤ 1200 := by omega
  have HI : Hid _ := hI
  have K36 : Hid _ := k36
  clear h hI hS hp hF hpc k36 ep eq ecl hcl
  go_enter Tryd.func25, Tryd.ntmps25
  go_wp2_with (go_at_call 36; refine (K36.out _ (by exact c2)).mono ?_; rintro e w' ⟨rfl, j, rfl⟩)
  go_quiet (fail)
  go_wp2
  go_ret
  exact ⟨rfl, _, Inv.same HI.out rfl rfl rfl rfl⟩

set_option maxRecDepth 100000 in
set_option maxHeartbeats 2000000 in
theorem few (n : Nat) (hn : n ≤ 100000) (h : Inv own w1 w R D (.slice ao len capP) lS (.slice (some ⟨g, 0, none⟩) (F.length + 1) cap) vT vC ((n : Int) + 1) ((f, v) :: F) [] data told C) (hS : Sure w1 R D ao gL len data.length P) (hp : f.part < len) (hF : F.length + 1 ≤ 20) (hpc : f.pc < (P f.part).cl) (hw : f.words.length ≤ 40)
    (Q : Ending → World → Prop)
    (hfew : ¬ needs ((P f.part).o f.pc) ((P f.part).b f.pc) ((P f.part).c f.pc) ≤ f.words.length → ∀ own' w' v', Inv own' w1 w' R D (.slice ao len capP) lS (.slice (some ⟨g, 0, none⟩) (F.length + 1) cap) vT vC n (({ f with pc := f.pc + 1 }, v') :: F) [] data told C → Q (.returned (.int .i64 4)) w')
    (hdo : needs ((P f.part).o f.pc) ((P f.part).b f.pc) ((P f.part).c f.pc) ≤ f.words.length → ∀ W tv v', Cut v' tv (needs ((P f.part).o f.pc) ((P f.part).b f.pc) ((P f.part).c f.pc)) →
      Inv own w1 W R D (.slice ao len capP) lS (.slice (some ⟨g, 0, none⟩) (F.length + 1) cap) vT vC n (({ f with pc := f.pc + 1, words := f.words.take (f.words.length - needs ((P f.part).o f.pc) ((P f.part).b f.pc) ((P f.part).c f.pc)) }, v') :: F) (f.words.drop (f.words.length - needs ((P f.part).o f.pc) ((P f.part).b f.pc) ((P f.part).c f.pc))) data told C →
      Calls Tryd.prog 39 #[.pointer (some ⟨R, 0, none⟩), .pointer (some ⟨g, F.length * 12, none⟩), .agg #[.int .i64 ((P f.part).o f.pc), .int .i64 ((P f.part).a f.pc), .int .i64 ((P f.part).b f.pc), .int .i64 ((P f.part).c f.pc)], tv] W fun e w' => (∃ i, e = .returned (.int .i64 i)) ∧ Q e w') :
    Calls Tryd.prog 25 #[.pointer (some ⟨R, 0, none⟩)] w Q := by
  have c3 : w.cell? ⟨R, 3, none⟩ = some (.int .i64 ((n : Int) + 1)) := h.run.cell 3 rfl
  have z3 := h.run.frozen 3
  have hI := h.fuel_set n
  have k36 := fun w c => last R g (F.length + 1) F.length cap w (by omega) (by omega) hF c
  obtain ⟨bl, off, rfl, t0, hin⟩ := code_at hI hS hp
  obtain ⟨bl2, off2, e2, t1, t2, t3, t4⟩ := hin f.pc hpc
  rw [e2] at t0
  have c2 := hI.run.cell 2 (v := .slice (some ⟨g, 0, none⟩) (F.length + 1) cap) rfl
  have c0 := hI.run.cell 0 (v := .slice (some ⟨bl, off, none⟩) len capP) rfl
  have cp : (w.setCell ⟨R, 3, none⟩ (.int .i64 n)).cell? ⟨g, F.length * 12, none⟩ = some (.int .i64 f.part) := hI.top_cell 0 rfl
  have ca := hI.top_cell 1 (u := .int .i64 f.pc) rfl
  have za := hI.top_frozen (F.length * 12 + 1)
  have hgl : g < w.heap.size := by have := (hI.frames.row.lt g rfl).2; simpa using this
  have hgn : w.heap.size ≠ g := by omega
  have hf0 := hS.code _ hp _ hpc
  obtain ⟨⟨o1, o15⟩, _, ⟨b0, b4⟩, ⟨c0', c4⟩⟩ := fault_zero hf0
  have hneed : needs ((P f.part).o f.pc) ((P f.part).b f.pc) ((P f.part).c f.pc) ≤ 4 := needs_le hf0
  have hI4 := (hI.top_set (f' := { f with pc := f.pc + 1 }) (v' := v) (l' := []) 1 (.int .i64 ((f.pc : Int) + 1)) (by simp [frCells]) ⟨hI.rooms.1.1, h.rooms.1.2⟩).alloc (.cells #[.int .i64 ((P f.part).o f.pc), .int .i64 ((P f.part).a f.pc), .int .i64 ((P f.part).b f.pc), .int .i64 ((P f.part).c f.pc)] 27)
  have k38 := fun W => takes ((P f.part).o f.pc) ((P f.part).a f.pc) ((P f.part).b f.pc) ((P f.part).c f.pc) W o1 o15 b0 c0'
  have hcl := hS.cl1200 _ hp
  have hpI : (f.part : Int) < len := by omega
  have hlI : (len : Int) ≤ 5 := by have := hS.len5; omega
  have hpcI : (f.pc : Int) < (P f.part).cl := by omega
  have hclI : ((P f.part).cl : Int) ≤ 1200 := by omega
  have hnI : (n : Int) ≤ 100000 := by omega
  have hn0 : (((n : Int) + 1) == 0) = false := by simp; omega
  obtain ⟨op, eop⟩ : ∃ x, x = (P f.part).o f.pc := ⟨_, rfl⟩
  obtain ⟨oa, eoa⟩ : ∃ x, x = (P f.part).a f.pc := ⟨_, rfl⟩
  obtain ⟨ob, eob⟩ : ∃ x, x = (P f.part).b f.pc := ⟨_, rfl⟩
  obtain ⟨oc, eoc⟩ : ∃ x, x = (P f.part).c f.pc := ⟨_, rfl⟩
  rw [← eop, ← eob, ← eoc] at hfew hdo hneed
  rw [← eop, ← eoa, ← eob, ← eoc] at hI4 k38
  rw [← eoa] at hdo
  rw [← eop] at t1
  rw [← eoa] at t2
  rw [← eob] at t3
  rw [← eoc] at t4
  obtain ⟨nd, end_⟩ : ∃ x, x = needs op ob oc := ⟨_, rfl⟩
  rw [← end_] at hfew hdo hneed k38
  obtain ⟨cl, ecl⟩ : ∃ x, x = (P f.part).cl := ⟨_, rfl⟩
  rw [← ecl] at t0 hpcI hclI
  obtain ⟨cc, ecc⟩ : ∃ x, x = (P f.part).cc := ⟨_, rfl⟩
  rw [← ecc] at t0
  have hb2 : bl2 < w.heap.size := by have := World.block_lt_of_cell? _ _ t1; simpa using this
  by_cases hnd : nd ≤ f.words.length
  · have k37 : ∀ W, Inv own w1 W R D (.slice (some ⟨bl, off, none⟩) len capP) lS (.slice (some ⟨g, 0, none⟩) (F.length + 1) cap) vT vC n (({ f with pc := f.pc + 1 }, v) :: F) [] data told C → _ := fun W hI => take2 hI nd hneed hw hnd
    obtain ⟨p, ep⟩ : ∃ p, p = f.part := ⟨_, rfl⟩
    rw [← ep] at t0 cp hpI
    have HI4 : Hid _ := hI4
    have K36 : Hid _ := k36
    have K38 : Hid _ := k38
    have HDO : Hid _ := hdo
    have HFEW : Hid _ := hfew
    have HND : Hid _ := hnd
    have K37 : Hid _ := k37
    clear h hI hS hp hF hpc k36 k38 k37 ep hI4 hdo hfew hnd hneed hw hin e2 hf0 o1 o15 b0 b4 c0' c4 eop eoa eob eoc end_ ecl ecc hcl
    go_enter Tryd.func25, Tryd.ntmps25
    go_wp2_with (go_at_call 36; refine (K36.out _ (by exact c2)).mono ?_; rintro e w' ⟨rfl, j, rfl⟩)
    go_quiet (fail)
    go_wp2_with (first
      | (go_at_call 38; refine (K38.out _).mono ?_; rintro e w5 ⟨rfl, hb5⟩; have I5 := Inv.moves (by exact Inv.same HI4.out rfl rfl rfl rfl) (Moves.below (own := own) (own' := own) hb5 (fun _ _ => rfl) (9, 9)); obtain ⟨b0, b1, b2, b3⟩ := box_in (n := w.heap.size) (by simp) hb5; have HI5 : Hid _ := I5; clear I5 hb5)
      | (go_at_call 37; refine (K37.out _ HI5.out).mono ?_; rintro e w6 ⟨tv, rfl, v', hcut, I6, rfl⟩; have HI6 : Hid _ := I6; have HCUT : Hid _ := hcut; clear I6 hcut)
      | (go_at_call 39; refine (HDO.out HND.out _ _ _ HCUT.out HI6.out).mono ?_; rintro e w' ⟨⟨i, rfl⟩, hq⟩))
    exact hq
  · have k37 : ∀ W, Inv own w1 W R D (.slice (some ⟨bl, off, none⟩) len capP) lS (.slice (some ⟨g, 0, none⟩) (F.length + 1) cap) vT vC n (({ f with pc := f.pc + 1 }, v) :: F) [] data told C → _ := fun W hI => take_few hI nd hneed hw hnd
    obtain ⟨p, ep⟩ : ∃ p, p = f.part := ⟨_, rfl⟩
    rw [← ep] at t0 cp hpI
    have HI4 : Hid _ := hI4
    have K36 : Hid _ := k36
    have K38 : Hid _ := k38
    have HDO : Hid _ := hdo
    have HFEW : Hid _ := hfew
    have HND : Hid _ := hnd
    have K37 : Hid _ := k37
    clear h hI hS hp hF hpc k36 k38 k37 ep hI4 hdo hfew hnd hneed hw hin e2 hf0 o1 o15 b0 b4 c0' c4 eop eoa eob eoc end_ ecl ecc hcl
    go_enter Tryd.func25, Tryd.ntmps25
    go_wp2_with (go_at_call 36; refine (K36.out _ (by exact c2)).mono ?_; rintro e w' ⟨rfl, j, rfl⟩)
    go_quiet (fail)
    go_wp2_with (first
      | (go_at_call 38; refine (K38.out _).mono ?_; rintro e w5 ⟨rfl, hb5⟩; have I5 := Inv.moves (by exact Inv.same HI4.out rfl rfl rfl rfl) (Moves.below (own := own) (own' := own) hb5 (fun _ _ => rfl) (9, 9)); obtain ⟨b0, b1, b2, b3⟩ := box_in (n := w.heap.size) (by simp) hb5; have HI5 : Hid _ := I5; clear I5 hb5)
      | (go_at_call 37; refine (K37.out _ HI5.out).mono ?_; rintro e w6 ⟨rfl, rfl⟩))
    exact HFEW.out HND.out _ _ _ HI5.out
end
end Go.Proofs.YtmbbkabecipkaacDoor.Step

namespace Go.Proofs.YtmbbkabecipkaacDoor.StepQ
open Go.RowKit Tab Go.Proofs.YtmbbkabecipkaacDoor.Check Lists Img Mach Own Go.Proofs.YtmbbkabecipkaacDoor.Inv Go.Proofs.YtmbbkabecipkaacDoor.Frame Take Go.Proofs.YtmbbkabecipkaacDoor.Went ActE ActQ Step

/-- no Call, and no Gate that goes through -/
def Quiet (P : Nat → PartD) (len : Nat) : Prop := ∀ k, k < len → ∀ j, j < (P k).cl → (P k).o j ≠ 11 ∧ ((P k).o j = 12 → ¬ ((P k).a j < len ∧ (P k).b j < (P ((P k).a j).toNat).el ∧ (P ((P k).a j).toNat).prs ((P k).b j).toNat = (P k).c j))

theorem enter_fit {len : Nat} {s s' : St} {f g : Fr} {rest : List Fr} (h : enter s f rest g = .inr s') (hf : f.part < len ∧ ∀ k, f.noted = some k → k < s.calls.length) (hw : f.words.length ≤ 40) (hr : ∀ g ∈ rest, g.part < len ∧ g.words.length ≤ 40 ∧ ∀ k, g.noted = some k → k < s.calls.length)
    (hg : g.part < len) (hgw : g.words = []) (hgn : ∀ k, g.noted = some k → k < s.calls.length) (hl : rest.length + 1 ≤ 20) (ht : s.told.length ≤ 500) (hc : s.calls.length ≤ 100) : Fit len s' := by
  unfold enter at h
  split at h
  · injection h with h
    subst h
    refine ⟨by simp, by simp; omega, fun x hx => ?_, ht, hc⟩
    rcases List.mem_cons.1 hx with rfl | hx
    · exact ⟨hg, by simp [hgw], hgn⟩
    · rcases List.mem_cons.1 hx with rfl | hx
      · exact ⟨hf.1, hw, hf.2⟩
      · exact hr x hx
  · cases h

theorem le_row {k : Nat} {a : Int} (h : (row k).1 ≤ a) : 0 ≤ a := by
  have : 0 ≤ (row k).1 := by
    by_cases hk : k < 16
    · have : ∀ i : Fin 16, 0 ≤ (row i).1 := by decide
      exact this ⟨k, hk⟩
    · simp only [row, rows]
      rw [List.getD_eq_getElem?_getD, List.getElem?_eq_none (by simp; omega)]
      decide
  omega

theorem act_fit {wdo : Int → Int → Int → Int} {P : Nat → PartD} {len : Nat} {s s' : St} {f : Fr} {rest : List Fr} {op a b c : Int} {l : List Int} (h : act wdo P len s f rest op a b c l = .inr s') (ha : 0 ≤ a)
    (hf : f.part < len ∧ ∀ k, f.noted = some k → k < s.calls.length) (hw : f.words.length ≤ 40) (hr : ∀ g ∈ rest, g.part < len ∧ g.words.length ≤ 40 ∧ ∀ k, g.noted = some k → k < s.calls.length) (hl : rest.length + 1 ≤ 20) (ht : s.told.length ≤ 500) (hc : s.calls.length ≤ 100) : Fit len s' := by
  unfold act at h
  by_cases e1 : op = 1
  · rw [if_pos e1] at h
    exact puts_good h hf hr hl ht hc
  rw [if_neg e1] at h
  by_cases e2 : op = 2
  · rw [if_pos e2] at h
    exact puts_good h hf hr hl ht hc
  rw [if_neg e2] at h
  by_cases e3 : op = 3
  · rw [if_pos e3] at h
    exact puts_good h hf hr hl ht hc
  rw [if_neg e3] at h
  by_cases e4 : op = 4
  · rw [if_pos e4] at h
    exact puts_good h hf hr hl ht hc
  rw [if_neg e4] at h
  by_cases e5 : op = 5
  · rw [if_pos e5] at h
    exact puts_good h hf hr hl ht hc
  rw [if_neg e5] at h
  by_cases e6 : op = 6
  · rw [if_pos e6] at h
    by_cases c1 : (P f.part).lo ≤ l.getD 0 0 ∧ l.getD 0 0 < (P f.part).hi
    · rw [if_pos c1] at h
      exact puts_good h hf hr hl ht hc
    · rw [if_neg c1] at h
      cases h
  rw [if_neg e6] at h
  by_cases e7 : op = 7
  · rw [if_pos e7] at h
    by_cases c1 : (P f.part).lo ≤ l.getD 0 0 ∧ l.getD 0 0 < (P f.part).hi
    · rw [if_pos c1] at h
      exact puts_good h hf hr hl ht hc
    · rw [if_neg c1] at h
      cases h
  rw [if_neg e7] at h
  by_cases e8 : op = 8
  · rw [if_pos e8] at h
    exact puts_good h hf hr hl ht hc
  rw [if_neg e8] at h
  by_cases e9 : op = 9
  · rw [if_pos e9] at h
    exact puts_good h hf hr hl ht hc
  rw [if_neg e9] at h
  by_cases e10 : op = 10
  · rw [if_pos e10] at h
    by_cases c1 : l.getD 0 0 = 0
    · rw [if_pos c1] at h
      exact puts_good h hf hr hl ht hc
    · rw [if_neg c1] at h
      exact puts_good h hf hr hl ht hc
  rw [if_neg e10] at h
  by_cases e11 : op = 11
  · rw [if_pos e11] at h
    exact enter_fit h hf hw hr hf.1 rfl (fun _ e => by cases e) hl ht hc
  rw [if_neg e11] at h
  by_cases e12 : op = 12
  · rw [if_pos e12] at h
    by_cases c1 : a < len ∧ b < (P a.toNat).el ∧ (P a.toNat).prs b.toNat = c
    · rw [if_pos c1] at h
      have hlt : a.toNat < len := by have := c1.1; omega
      by_cases c2 : s.calls.length < 100
      · rw [if_pos c2] at h
        exact enter_fit h ⟨hf.1, fun k e => by have := hf.2 k e; simp; omega⟩ hw (fun g hg => ⟨(hr g hg).1, (hr g hg).2.1, fun k e => by have := (hr g hg).2.2 k e; simp; omega⟩) hlt rfl (fun k e => by cases e; simp) hl ht (by simp; omega)
      · rw [if_neg c2] at h
        exact enter_fit h hf hw hr hlt rfl (fun _ e => by cases e) hl ht hc
    · rw [if_neg c1] at h
      cases h
  rw [if_neg e12] at h
  by_cases e13 : op = 13
  · rw [if_pos e13] at h
    match rest, h, hr, hl with
    | [], h, _, _ => cases h
    | g :: rest', h, hr, hl =>
      have hg := hr g (by simp)
      cases hno : f.noted with
      | none =>
        rw [hno] at h
        exact puts_good h ⟨hg.1, hg.2.2⟩ (fun x hx => hr x (by simp [hx])) (by simp at hl; omega) ht hc
      | some q =>
        rw [hno] at h
        exact puts_good h ⟨hg.1, fun k e => by have := hg.2.2 k e; simpa using this⟩ (fun x hx => by have := hr x (by simp [hx]); exact ⟨this.1, this.2.1, fun k e => by have := this.2.2 k e; simpa using this⟩) (by simp at hl; omega) ht (by simpa using hc)
  rw [if_neg e13] at h
  by_cases e14 : op = 14
  · rw [if_pos e14] at h
    by_cases c1 : s.told.length < 500
    · rw [if_pos c1] at h
      exact puts_good h hf hr hl (by simp; omega) hc
    · rw [if_neg c1] at h
      cases h
  rw [if_neg e14] at h
  cases h

theorem step_fit {wdo : Int → Int → Int → Int} {P : Nat → PartD} {len : Nat} {s s' : St} (h : Mach.step wdo P len s = .inr s') (hs : Fit len s) (hcode : ∀ k, k < len → ∀ j, j < (P k).cl → fault ((P k).o j) ((P k).a j) ((P k).b j) ((P k).c j) = 0) : Fit len s' := by
  obtain ⟨rooms, data, told, calls⟩ := s
  match rooms, h, hs with
  | [], h, hs => exact absurd rfl hs.room
  | f :: rest, h, hs =>
    have hf := hs.fr f (by simp)
    simp only [Mach.step] at h
    split at h
    · rename_i hpc
      split at h
      · have := (fault_zero (hcode _ hf.1 _ hpc)).2.1.1
        refine act_fit h (le_row this) ⟨hf.1, hf.2.2⟩ (by simp; have := hf.2.1; omega) (fun g hg => hs.fr g (by simp [hg])) (by have := hs.few; simpa using this) hs.told hs.calls
      · cases h
    · cases h

section
variable {own : Nat → Tag} {w1 w : World} {R D : Nat} {vF vT vC : Value} {F : List (Fr × Value)} {data told : List Int} {C : List (Rec × Value)} {gL len capL capP : Nat} {P : Nat → PartD} {ao : Option Addr}

theorem stepped (n : Nat) (hn : n ≤ 100000) (h : Inv own w1 w R D (.slice ao len capP) (.slice (some ⟨gL, 0, none⟩) len capL) vF vT vC ((n : Int) + 1) F [] data told C) (hS : Sure w1 R D ao gL len data.length P) (hq : Quiet P len) (hfit : Fit len ⟨F.map Prod.fst, data, told, C.map Prod.fst⟩) :
    Calls Tryd.prog 25 #[.pointer (some ⟨R, 0, none⟩)] w fun e w' => Went w1 R D (.slice ao len capP) (.slice (some ⟨gL, 0, none⟩) len capL) n e w' (Mach.step wdoT P len ⟨F.map Prod.fst, data, told, C.map Prod.fst⟩) := by
  match F, h, hfit with
  | [], _, hfit => exact absurd rfl hfit.room
  | (f, v) :: F, h, hfit =>
    obtain ⟨g, cap, rfl, _, _⟩ := h.frames_form
    have hf := hfit.fr f (by simp)
    have hF : F.length + 1 ≤ 20 := by have := hfit.few; simpa using this
    have hws : ∀ p ∈ F, p.1.words.length ≤ 40 := fun p hp => (hfit.fr p.1 (by simp; exact .inr ⟨p.2, hp⟩)).2.1
    have hnt : ∀ k, f.noted = some k → k < C.length := fun k e => by have := hf.2.2 k e; simpa using this
    have hC : C.length ≤ 100 := by have := hfit.calls; simpa using this
    by_cases hpc : f.pc < (P f.part).cl
    · have e1 : Mach.step wdoT P len ⟨((f, v) :: F).map Prod.fst, data, told, C.map Prod.fst⟩ = if needs ((P f.part).o f.pc) ((P f.part).b f.pc) ((P f.part).c f.pc) ≤ f.words.length then
          act wdoT P len ⟨((f, v) :: F).map Prod.fst, data, told, C.map Prod.fst⟩ { f with pc := f.pc + 1, words := f.words.take (f.words.length - needs ((P f.part).o f.pc) ((P f.part).b f.pc) ((P f.part).c f.pc)) } (F.map Prod.fst) ((P f.part).o f.pc) ((P f.part).a f.pc) ((P f.part).b f.pc) ((P f.part).c f.pc) (f.words.drop (f.words.length - needs ((P f.part).o f.pc) ((P f.part).b f.pc) ((P f.part).c f.pc)))
          else ends 4 0 ⟨((f, v) :: F).map Prod.fst, data, told, C.map Prod.fst⟩ := by
        simp only [Mach.step, List.map_cons, if_pos hpc]
      rw [e1]
      refine few n hn h hS hf.1 hF hpc hf.2.1 _ (fun hno own' w' v' h' => ?_) (fun hyes W tv v' hcut h' => ?_)
      · rw [if_neg hno]
        exact went_end h'.fin ⟨rfl, rfl, rfl⟩
      · rw [if_pos hyes]
        have hfz := hS.code _ hf.1 _ hpc
        refine (quiet h' (by rw [List.length_drop]; rwa [show f.words.length - (f.words.length - needs ((P f.part).o f.pc) ((P f.part).b f.pc) ((P f.part).c f.pc)) = needs ((P f.part).o f.pc) ((P f.part).b f.pc) ((P f.part).c f.pc) by omega]) hS (by simp; have := hf.2.1; omega) hf.1 hfit.told hF hws hnt hC _ _ _ _ hfz (by rw [List.length_drop]; omega) (hq _ hf.1 _ hpc) (((f, v) :: F).map Prod.fst)).mono ?_
        intro e w' hwent
        exact ⟨went_ret hwent, hwent⟩
    · rw [show Mach.step wdoT P len ⟨((f, v) :: F).map Prod.fst, data, told, C.map Prod.fst⟩ = ends 4 0 ⟨((f, v) :: F).map Prod.fst, data, told, C.map Prod.fst⟩ by simp only [Mach.step, List.map_cons, if_neg hpc]]
      refine (behind n hn h hS hf.1 hF hpc).mono ?_
      rintro e w' ⟨rfl, own', h'⟩
      exact went_end h'.fin ⟨rfl, rfl, rfl⟩
end
end Go.Proofs.YtmbbkabecipkaacDoor.StepQ
