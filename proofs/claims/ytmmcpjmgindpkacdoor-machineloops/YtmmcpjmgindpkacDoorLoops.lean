/-
  THE WALK OF THE LAW 'barbicankeep.MachineLoops': however often the loop is told to go round, and whatever less of fuel it is given, the call returns true, and lays new memory alone.
  Conditions: the table 'code.bounds' lies there.
-/
import Derived.Test.YtmmcpjmgindpkacDoorListed
namespace Go.Proofs.YtmmcpjmgindpkacDoor.Loops
open Go.RowKit Tab Go.Proofs.YtmmcpjmgindpkacDoor.Check Lists Go.Proofs.YtmmcpjmgindpkacDoor.Read Img Mach Go.Proofs.YtmmcpjmgindpkacDoor.Own Go.Proofs.YtmmcpjmgindpkacDoor.Inv ActQ StepQ MRun Keep KRun Listed

theorem later {w w4 : World} {o : Obj} (hl : Lies w) (hb : Below (w.alloc o).heap.size (w.alloc o) w4) (o2 : Obj) : Lies (w4.alloc o2) ∧ (w4.alloc o2).heap[w.heap.size]? = some o ∧ Below w.heap.size w (w4.alloc o2) := by
  have h2 := hb.alloc hb.size o2
  have h3 := (below1 w o).trans (h2.mono (below1 w o).size)
  refine ⟨Lies_below hl h3, ?_, h3⟩
  rw [h2.block w.heap.size (by rw [size_at]; omega)]
  exact heap_alloc_new w o

theorem still {w4 w5 : World} {cs : Array Value} {t : TypeId} (hb : Below (w4.alloc (.cells cs t)).heap.size (w4.alloc (.cells cs t)) w5) (i : Nat) (v : Value) (hv : cs[i]? = some v) : ∀ o, (w5.alloc o).cell? ⟨w4.heap.size, i, none⟩ = some v := by
  intro o
  have hlt : w4.heap.size < (w4.alloc (.cells cs t)).heap.size := by rw [size_at]; omega
  exact ((World.cell?_alloc_past o _ _ (Nat.lt_of_lt_of_le hlt hb.size)).trans (hb.cell (p := ⟨w4.heap.size, i, none⟩) hlt)).trans (cell_of_heap (heap_alloc_new _ _) hv)

theorem ends {w w4 w5 : World} {o : Obj} (hl : Lies w) (hb : Below (w.alloc o).heap.size (w.alloc o) w4) (o2 : Obj) (hb5 : Below (w4.alloc o2).heap.size (w4.alloc o2) w5) (o3 : Obj) : Below w.heap.size w (w5.alloc o3) := by
  have h1 := (later hl hb o2).2.2
  exact (h1.trans (hb5.mono h1.size)).alloc (Nat.le_trans h1.size hb5.size) o3

set_option maxRecDepth 100000 in
set_option maxHeartbeats 4000000 in
theorem walk (n : Int) (wn : (Lit.int .i64 n).wf = true) (f : Int) (wf : (Lit.int .i64 f).wf = true) (w : World) (hl : Lies w) :
    Calls Tryd.prog 6 #[.int .i64 n, .int .i64 f] w fun e w' => e = .returned (.bool true) ∧ Below w.heap.size w w' := by
  have hk : pk n 100 < 100 := pk_lt n 100 (by decide)
  have kn : ∀ w, Calls Tryd.prog 9 #[.int .i64 n, .int .i64 100] w fun e w' => e = .returned (.int .i64 (pk n 100 : Nat)) ∧ w' = w := fun w => picked n wn 100 (by decide) (by decide) w
  obtain ⟨k, ek⟩ : ∃ k, k = pk n 100 := ⟨_, rfl⟩
  rw [← ek] at hk kn
  clear ek
  have hkI : (k : Int) < 100 := by omega
  have en : ((2 + 7 * k + 2 + 2 : Nat) : Int) = 2 + 7 * (k : Int) + 2 + 2 := by omega
  have hv : pk f (2 + 7 * k + 2 + 2) < 2 + 7 * k + 2 + 2 := pk_lt f _ (by omega)
  have kf : ∀ w, Calls Tryd.prog 9 #[.int .i64 f, .int .i64 (2 + 7 * (k : Int) + 2 + 2)] w fun e w' => e = .returned (.int .i64 (pk f (2 + 7 * k + 2 + 2) : Nat)) ∧ w' = w := fun w => by
    have h := picked f wf (2 + 7 * k + 2 + 2) (by omega) (by omega) w
    rwa [en] at h
  obtain ⟨v, ev⟩ : ∃ v, v = pk f (2 + 7 * k + 2 + 2) := ⟨_, rfl⟩
  rw [← ev] at hv kf
  clear ev
  have hvI : (v : Int) < 1000 := by omega
  have k19a : ∀ cb W, Lies W → W.heap[cb]? = some (.cells (flat (looping k)).toArray 27) →
      Calls Tryd.prog 19 #[.slice (some ⟨cb, 0, none⟩) 11 11, .int .i64 0, .int .i64 (2 + 7 * (k : Int) + 2 + 2)] W fun e w' => Below W.heap.size W w' ∧ ∃ aT nT cT aD nD cD aC nC cC, e = .returned (.tuple #[.agg #[.int .i64 1, .int .i64 7, .slice aT nT cT, .slice aD nD cD, .slice aC nC cC], .bool true]) := fun cb W h1 h2 => by
    have h := loops_run k (2 + 7 * k + 2 + 2) (by omega) (by omega) W cb h1 h2
    rw [if_neg (by omega), if_neg (by omega)] at h
    rwa [en] at h
  have k19b : ∀ cb W, Lies W → W.heap[cb]? = some (.cells (flat (looping k)).toArray 27) →
      Calls Tryd.prog 19 #[.slice (some ⟨cb, 0, none⟩) 11 11, .int .i64 0, .int .i64 v] W fun e w' => Below W.heap.size W w' ∧ ∃ aT nT cT aD nD cD aC nC cC, e = .returned (.tuple #[.agg #[.int .i64 3, .int .i64 0, .slice aT nT cT, .slice aD nD cD, .slice aC nC cC], .bool true]) := fun cb W h1 h2 => by
    have h := loops_run k v (by omega) (by omega) W cb h1 h2
    rwa [if_pos (by omega), if_pos (by omega)] at h
  have K19A : Hid _ := k19a
  have K19B : Hid _ := k19b
  have HL : Hid _ := hl
  clear hl hv en k19a k19b
  go_enter Tryd.func6, Tryd.ntmps6
  go_wp2_with (first
    | (go_at_call_of 9 n; refine (kn _).mono ?_; rintro e w' ⟨rfl, rfl⟩)
    | (go_at_call_of 9 f; refine (kf _).mono ?_; rintro e w' ⟨rfl, rfl⟩)
    | (go_at_call 19; refine (K19A.out _ _ (Lies_below HL.out (below1 _ _)) (heap_alloc_new _ _)).mono ?_; rintro e w4 ⟨hb4, aT, nT, cT, aD, nD, cD, aC, nC, cC, rfl⟩; clear K19A; have HB4 : Hid _ := hb4; clear hb4)
    | (go_at_call 19; refine (K19B.out _ _ (later HL.out HB4.out _).1 (later HL.out HB4.out _).2.1).mono ?_; rintro e w5 ⟨hb5, aT5, nT5, cT5, aD5, nD5, cD5, aC5, nC5, cC5, rfl⟩; have d0 := still hb5 0 _ rfl; have d1 := still hb5 1 _ rfl; have HB5 : Hid _ := hb5; clear hb5))
  go_ret
  exact ⟨rfl, ends HL.out HB4.out _ HB5.out _⟩
end Go.Proofs.YtmmcpjmgindpkacDoor.Loops
