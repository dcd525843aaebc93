/-
  THE WALK OF THE LAW 'barbicankeep.MachineDoes': for every operation and every two words that it picks the call returns true, and lays new memory alone.
  Conditions: the table 'code.bounds' lies there.
-/
import Derived.Test.YtmmcpjmgindpkacDoorListed
namespace Go.Proofs.YtmmcpjmgindpkacDoor.Does
open Go.RowKit Tab Go.Proofs.YtmmcpjmgindpkacDoor.Check Lists Go.Proofs.YtmmcpjmgindpkacDoor.Read Img Mach Go.Proofs.YtmmcpjmgindpkacDoor.Own Go.Proofs.YtmmcpjmgindpkacDoor.Inv ActQ StepQ MRun Keep KRun Listed

theorem one_at {w : World} {g : Nat} {r : Int} (h : w.cell? ⟨g, 0, none⟩ = some (.int .i64 r)) : ∀ i, i < 1 → w.cell? ⟨g, i, none⟩ = some (.int .i64 r) := by
  intro i hi
  obtain rfl : i = 0 := by omega
  exact h

theorem new_at (w : World) (o : Obj) (r : Int) {g : Nat} (hg : g = w.heap.size + 1) : ((w.alloc o).alloc (.cells #[.int .i64 r] 3)).cell? ⟨g, 0, none⟩ = some (.int .i64 r) := by
  subst hg
  have h := heap_alloc_new (w.alloc o) (.cells #[.int .i64 r] 3)
  rw [size_at] at h
  exact cell_of_heap h rfl

set_option maxRecDepth 100000 in
set_option maxHeartbeats 4000000 in
theorem walk (q : Int) (wq : (Lit.int .i64 q).wf = true) (a : Int) (wa : (Lit.int .i64 a).wf = true) (b : Int) (wb : (Lit.int .i64 b).wf = true) (w : World) (hl : Lies w) :
    Calls Tryd.prog 5 #[.int .i64 q, .int .i64 a, .int .i64 b] w fun e w' => e = .returned (.bool true) ∧ Below w.heap.size w w' := by
  have hp : pk q 10 < 10 := pk_lt q 10 (by decide)
  have hx : pk a 65536 < 65536 := pk_lt a 65536 (by decide)
  have hy : pk b 65536 < 65536 := pk_lt b 65536 (by decide)
  have kq : ∀ w, Calls Tryd.prog 9 #[.int .i64 q, .int .i64 10] w fun e w' => e = .returned (.int .i64 (pk q 10 : Nat)) ∧ w' = w := fun w => picked q wq 10 (by decide) (by decide) w
  have ka : ∀ w, Calls Tryd.prog 9 #[.int .i64 a, .int .i64 65536] w fun e w' => e = .returned (.int .i64 (pk a 65536 : Nat)) ∧ w' = w := fun w => picked a wa 65536 (by decide) (by decide) w
  have kb : ∀ w, Calls Tryd.prog 9 #[.int .i64 b, .int .i64 65536] w fun e w' => e = .returned (.int .i64 (pk b 65536 : Nat)) ∧ w' = w := fun w => picked b wb 65536 (by decide) (by decide) w
  obtain ⟨p, ep⟩ : ∃ p, p = pk q 10 := ⟨_, rfl⟩
  obtain ⟨x, ex⟩ : ∃ x, x = pk a 65536 := ⟨_, rfl⟩
  obtain ⟨y, ey⟩ : ∃ y, y = pk b 65536 := ⟨_, rfl⟩
  rw [← ep] at hp kq
  rw [← ex] at hx ka
  rw [← ey] at hy kb
  clear ep ex ey
  have hpI : (p : Int) < 10 := by omega
  have k18 : ∀ W, Calls Tryd.prog 18 #[.int .i64 (1 + (p : Int)), .int .i64 x, .int .i64 y] W fun e w' => e = .returned (.tuple #[.int .i64 (Plain.wdo (1 + (p : Int)) x y), .int .i64 0]) ∧ w' = W :=
    fun W => Do.ok (1 + (p : Int)) x y (by omega) (by omega) (by omega) (by omega) (by omega) (by omega) W
  have k19 : ∀ cb W, Lies W → W.heap[cb]? = some (.cells #[.int .i64 1, .int .i64 x, .int .i64 0, .int .i64 0, .int .i64 1, .int .i64 y, .int .i64 0, .int .i64 0, .int .i64 8, .int .i64 (1 + (p : Int)), .int .i64 0, .int .i64 0, .int .i64 3, .int .i64 0, .int .i64 0, .int .i64 0, .int .i64 14, .int .i64 0, .int .i64 0, .int .i64 0, .int .i64 13, .int .i64 0, .int .i64 0, .int .i64 0] 27) →
      Calls Tryd.prog 19 #[.slice (some ⟨cb, 0, none⟩) 6 6, .int .i64 0, .int .i64 100] W fun e w' => Below W.heap.size W w' ∧ ∃ g cT aD nD cD aC nC cC, e = .returned (.tuple #[.agg #[.int .i64 1, .int .i64 (Plain.wdo (1 + (p : Int)) x y), .slice (some ⟨g, 0, none⟩) 1 cT, .slice aD nD cD, .slice aC nC cC], .bool true]) ∧ w'.cell? ⟨g, 0, none⟩ = some (.int .i64 (Plain.wdo (1 + (p : Int)) x y)) ∧ g < w'.heap.size :=
    fun cb W h1 h2 => does_run (1 + (p : Int)) x y (by omega) (by omega) (by omega) (by omega) (by omega) (by omega) W cb h1 h2
  obtain ⟨r, er⟩ : ∃ r, r = Plain.wdo (1 + (p : Int)) x y := ⟨_, rfl⟩
  rw [← er] at k18 k19
  clear er hx hy hp
  have HL : Hid _ := hl
  clear hl
  go_enter Tryd.func5, Tryd.ntmps5
  go_wp2_with (first
    | (go_at_call_of 9 q; refine (kq _).mono ?_; rintro e w' ⟨rfl, rfl⟩)
    | (go_at_call_of 9 a; refine (ka _).mono ?_; rintro e w' ⟨rfl, rfl⟩)
    | (go_at_call_of 9 b; refine (kb _).mono ?_; rintro e w' ⟨rfl, rfl⟩)
    | (go_at_call 18; refine (k18 _).mono ?_; rintro e w' ⟨rfl, rfl⟩)
    | (go_at_call 19; refine (k19 _ _ (Lies_below HL.out (below1 _ _)) (heap_alloc_new _ _)).mono ?_; rintro e w4 ⟨hb4, g, cT, aD, nD, cD, aC, nC, cC, rfl, hg, hlt⟩; have HB4 : Hid _ := hb4; have HG : Hid _ := hg; clear hb4 hg)
    | (go_at_call 12; refine (equal 1 (by decide) g cT _ 1 (fun _ => r) _ (one_at (((below2 _ _ _).cell (p := ⟨g, 0, none⟩) hlt).trans HG.out)) (one_at (new_at _ _ _ rfl))).mono ?_; rintro e w5 ⟨rfl, hb5⟩; have HB5 : Hid _ := hb5; clear hb5))
  go_ret
  exact ⟨rfl, ((below1 _ _).trans ((HB4.out.trans ((below2 _ _ _).mono HB4.out.size)).mono (below1 _ _).size)).trans (HB5.out.mono (((below1 _ _).trans ((HB4.out.trans ((below2 _ _ _).mono HB4.out.size)).mono (below1 _ _).size)).size))⟩
end Go.Proofs.YtmmcpjmgindpkacDoor.Does
