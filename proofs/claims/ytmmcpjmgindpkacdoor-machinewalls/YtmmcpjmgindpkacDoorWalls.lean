/-
  THE WALK OF THE LAW 'barbicankeep.MachineWalls': whichever code is picked, the call returns true, and lays new memory alone.
  Conditions: the table 'code.bounds' lies there.
-/
import Derived.Test.YtmmcpjmgindpkacDoorWalled
namespace Go.Proofs.YtmmcpjmgindpkacDoor.Walls
open Go.RowKit Tab Go.Proofs.YtmmcpjmgindpkacDoor.Check Lists Go.Proofs.YtmmcpjmgindpkacDoor.Read Img Mach Go.Proofs.YtmmcpjmgindpkacDoor.Own Go.Proofs.YtmmcpjmgindpkacDoor.Inv ActQ StepQ MRun Keep KRun Listed Walled

/-- what lies there when the codes are made -/
theorem made (w : World) (p3 p6 p7 p5 : Nat) (W : World) (hW : W = ((((((((((((w.alloc (.cells #[.int .i64 1, .int .i64 (p3 : Int), .int .i64 0, .int .i64 0, .int .i64 1, .int .i64 9, .int .i64 0, .int .i64 0, .int .i64 7, .int .i64 0, .int .i64 0, .int .i64 0, .int .i64 1, .int .i64 0, .int .i64 0, .int .i64 0, .int .i64 13, .int .i64 0, .int .i64 0, .int .i64 0] 27)).alloc (.cells #[.int .i64 1, .int .i64 (p3 : Int), .int .i64 0, .int .i64 0, .int .i64 6, .int .i64 0, .int .i64 0, .int .i64 0, .int .i64 13, .int .i64 0, .int .i64 0, .int .i64 0] 27)).alloc (.cells #[.int .i64 1, .int .i64 (7 + (p6 : Int)), .int .i64 0, .int .i64 0, .int .i64 6, .int .i64 0, .int .i64 0, .int .i64 0, .int .i64 13, .int .i64 0, .int .i64 0, .int .i64 0] 27)).alloc (.cells #[.int .i64 12, .int .i64 0, .int .i64 (1 + (p7 : Int)), .int .i64 0, .int .i64 13, .int .i64 0, .int .i64 0, .int .i64 0] 27)).alloc (.cells #[.int .i64 12, .int .i64 (2 + (p3 : Int)), .int .i64 0, .int .i64 0, .int .i64 13, .int .i64 0, .int .i64 0, .int .i64 0] 27)).alloc (.cells #[.int .i64 1, .int .i64 0, .int .i64 0, .int .i64 0, .int .i64 1, .int .i64 0, .int .i64 0, .int .i64 0, .int .i64 12, .int .i64 0, .int .i64 0, .int .i64 2, .int .i64 13, .int .i64 0, .int .i64 0, .int .i64 0] 27)).alloc (.cells #[.int .i64 12, .int .i64 0, .int .i64 0, .int .i64 1, .int .i64 13, .int .i64 0, .int .i64 0, .int .i64 0] 27)).alloc (.cells #[.int .i64 2, .int .i64 0, .int .i64 0, .int .i64 0] 27)).alloc (.cells #[.int .i64 13, .int .i64 0, .int .i64 0, .int .i64 0] 27)).alloc (.cells #[.int .i64 9, .int .i64 (5 + (p5 : Int)), .int .i64 0, .int .i64 0] 27)).alloc (.cells #[.int .i64 1, .int .i64 0, .int .i64 0, .int .i64 0, .int .i64 9, .int .i64 0, .int .i64 0, .int .i64 0] 27)).alloc (.cells #[.slice (some ⟨w.heap.size, 0, none⟩) 5 5, .slice (some ⟨w.heap.size + 1, 0, none⟩) 3 3, .slice (some ⟨w.heap.size + 1 + 1, 0, none⟩) 3 3, .slice (some ⟨w.heap.size + 1 + 1 + 1, 0, none⟩) 2 2, .slice (some ⟨w.heap.size + 1 + 1 + 1 + 1, 0, none⟩) 2 2, .slice (some ⟨w.heap.size + 1 + 1 + 1 + 1 + 1, 0, none⟩) 4 4, .slice (some ⟨w.heap.size + 1 + 1 + 1 + 1 + 1 + 1, 0, none⟩) 2 2, .slice (some ⟨w.heap.size + 1 + 1 + 1 + 1 + 1 + 1 + 1, 0, none⟩) 1 1, .slice (some ⟨w.heap.size + 1 + 1 + 1 + 1 + 1 + 1 + 1 + 1, 0, none⟩) 1 1, .slice (some ⟨w.heap.size + 1 + 1 + 1 + 1 + 1 + 1 + 1 + 1 + 1, 0, none⟩) 1 1, .slice (some ⟨w.heap.size + 1 + 1 + 1 + 1 + 1 + 1 + 1 + 1 + 1 + 1, 0, none⟩) 2 2] 28))) : Below w.heap.size w W ∧ W.heap.size = w.heap.size + 1 + 1 + 1 + 1 + 1 + 1 + 1 + 1 + 1 + 1 + 1 + 1 ∧ ∀ i, i < 11 → W.cell? ⟨w.heap.size + 1 + 1 + 1 + 1 + 1 + 1 + 1 + 1 + 1 + 1 + 1, i, none⟩ = some (.slice (some ⟨w.heap.size + i, 0, none⟩) (codeAt p3 p6 p7 p5 i).length (codeAt p3 p6 p7 p5 i).length) ∧ W.heap[w.heap.size + i]? = some (.cells (flat (codeAt p3 p6 p7 p5 i)).toArray 27) := by
  have hs : W.heap.size = w.heap.size + 1 + 1 + 1 + 1 + 1 + 1 + 1 + 1 + 1 + 1 + 1 + 1 := by rw [hW]; simp only [size_at]
  refine ⟨bel_of (by omega) (fun k hk => ?_) (by rw [hW]; rfl) (by rw [hW]; rfl) (by rw [hW]; rfl), hs, fun i hi => ⟨?_, ?_⟩⟩
  · rw [hW]
    simp only [heap_get, size_at]
    repeat rw [if_neg (by omega)]
  · have ho : W.heap[w.heap.size + 1 + 1 + 1 + 1 + 1 + 1 + 1 + 1 + 1 + 1 + 1]? = some (.cells #[.slice (some ⟨w.heap.size, 0, none⟩) 5 5, .slice (some ⟨w.heap.size + 1, 0, none⟩) 3 3, .slice (some ⟨w.heap.size + 1 + 1, 0, none⟩) 3 3, .slice (some ⟨w.heap.size + 1 + 1 + 1, 0, none⟩) 2 2, .slice (some ⟨w.heap.size + 1 + 1 + 1 + 1, 0, none⟩) 2 2, .slice (some ⟨w.heap.size + 1 + 1 + 1 + 1 + 1, 0, none⟩) 4 4, .slice (some ⟨w.heap.size + 1 + 1 + 1 + 1 + 1 + 1, 0, none⟩) 2 2, .slice (some ⟨w.heap.size + 1 + 1 + 1 + 1 + 1 + 1 + 1, 0, none⟩) 1 1, .slice (some ⟨w.heap.size + 1 + 1 + 1 + 1 + 1 + 1 + 1 + 1, 0, none⟩) 1 1, .slice (some ⟨w.heap.size + 1 + 1 + 1 + 1 + 1 + 1 + 1 + 1 + 1, 0, none⟩) 1 1, .slice (some ⟨w.heap.size + 1 + 1 + 1 + 1 + 1 + 1 + 1 + 1 + 1 + 1, 0, none⟩) 2 2] 28) := by
      rw [hW, heap_get, if_pos (by simp only [size_at])]
    match i, hi with
    | 0, _ => exact cell_of_heap ho rfl
    | 1, _ => exact cell_of_heap ho rfl
    | 2, _ => exact cell_of_heap ho rfl
    | 3, _ => exact cell_of_heap ho rfl
    | 4, _ => exact cell_of_heap ho rfl
    | 5, _ => exact cell_of_heap ho rfl
    | 6, _ => exact cell_of_heap ho rfl
    | 7, _ => exact cell_of_heap ho rfl
    | 8, _ => exact cell_of_heap ho rfl
    | 9, _ => exact cell_of_heap ho rfl
    | 10, _ => exact cell_of_heap ho rfl
  · match i, hi with
    | 0, _ =>
      rw [hW]
      simp only [heap_get, size_at]
      repeat first | rw [if_neg (by omega)] | rw [if_pos (by omega)]
      rfl
    | 1, _ =>
      rw [hW]
      simp only [heap_get, size_at]
      repeat first | rw [if_neg (by omega)] | rw [if_pos (by omega)]
      rfl
    | 2, _ =>
      rw [hW]
      simp only [heap_get, size_at]
      repeat first | rw [if_neg (by omega)] | rw [if_pos (by omega)]
      rfl
    | 3, _ =>
      rw [hW]
      simp only [heap_get, size_at]
      repeat first | rw [if_neg (by omega)] | rw [if_pos (by omega)]
      rfl
    | 4, _ =>
      rw [hW]
      simp only [heap_get, size_at]
      repeat first | rw [if_neg (by omega)] | rw [if_pos (by omega)]
      rfl
    | 5, _ =>
      rw [hW]
      simp only [heap_get, size_at]
      repeat first | rw [if_neg (by omega)] | rw [if_pos (by omega)]
      rfl
    | 6, _ =>
      rw [hW]
      simp only [heap_get, size_at]
      repeat first | rw [if_neg (by omega)] | rw [if_pos (by omega)]
      rfl
    | 7, _ =>
      rw [hW]
      simp only [heap_get, size_at]
      repeat first | rw [if_neg (by omega)] | rw [if_pos (by omega)]
      rfl
    | 8, _ =>
      rw [hW]
      simp only [heap_get, size_at]
      repeat first | rw [if_neg (by omega)] | rw [if_pos (by omega)]
      rfl
    | 9, _ =>
      rw [hW]
      simp only [heap_get, size_at]
      repeat first | rw [if_neg (by omega)] | rw [if_pos (by omega)]
      rfl
    | 10, _ =>
      rw [hW]
      simp only [heap_get, size_at]
      repeat first | rw [if_neg (by omega)] | rw [if_pos (by omega)]
      rfl

set_option maxRecDepth 100000 in
set_option maxHeartbeats 8000000 in
theorem walk (q : Int) (wq : (Lit.int .i64 q).wf = true) (n : Int) (wn : (Lit.int .i64 n).wf = true) (w : World) (hl : Lies w) :
    Calls Tryd.prog 7 #[.int .i64 q, .int .i64 n] w fun e w' => e = .returned (.bool true) ∧ Below w.heap.size w w' := by
  have h3 : pk n 3 < 3 := pk_lt n 3 (by decide)
  have h6 : pk n 60000 < 60000 := pk_lt n 60000 (by decide)
  have h7 : pk n 7 < 7 := pk_lt n 7 (by decide)
  have h5 : pk n 50 < 50 := pk_lt n 50 (by decide)
  have hi : pk q 11 < 11 := pk_lt q 11 (by decide)
  obtain ⟨G, hG⟩ : ∃ G : Int → Int, G = fun m => ((pk n m.toNat : Nat) : Int) := ⟨_, rfl⟩
  have kn : ∀ (m : Int) W, 0 < m → m ≤ 65536 → Calls Tryd.prog 9 #[.int .i64 n, .int .i64 m] W fun e w' => e = .returned (.int .i64 (G m)) ∧ w' = W := fun m W h0 h1 => by
    have h := picked n wn m.toNat (by omega) (by omega) W
    rw [hG]
    rwa [show ((m.toNat : Nat) : Int) = m by omega] at h
  have g3 : G 3 = (pk n 3 : Nat) := by rw [hG]; rfl
  have g6 : G 60000 = (pk n 60000 : Nat) := by rw [hG]; rfl
  have g7 : G 7 = (pk n 7 : Nat) := by rw [hG]; rfl
  have g5 : G 50 = (pk n 50 : Nat) := by rw [hG]; rfl
  clear hG
  have kq : ∀ w, Calls Tryd.prog 9 #[.int .i64 q, .int .i64 11] w fun e w' => e = .returned (.int .i64 (pk q 11 : Nat)) ∧ w' = w := fun w => picked q wq 11 (by decide) (by decide) w
  obtain ⟨p3, e3⟩ : ∃ p, p = pk n 3 := ⟨_, rfl⟩
  obtain ⟨p6, e6⟩ : ∃ p, p = pk n 60000 := ⟨_, rfl⟩
  obtain ⟨p7, e7⟩ : ∃ p, p = pk n 7 := ⟨_, rfl⟩
  obtain ⟨p5, e5⟩ : ∃ p, p = pk n 50 := ⟨_, rfl⟩
  obtain ⟨i, ei⟩ : ∃ i, i = pk q 11 := ⟨_, rfl⟩
  rw [← e3] at h3 g3
  rw [← e6] at h6 g6
  rw [← e7] at h7 g7
  rw [← e5] at h5 g5
  rw [← ei] at hi kq
  clear e3 e6 e7 e5 ei
  obtain ⟨W, hW⟩ : ∃ W, W = ((((((((((((w.alloc (.cells #[.int .i64 1, .int .i64 (p3 : Int), .int .i64 0, .int .i64 0, .int .i64 1, .int .i64 9, .int .i64 0, .int .i64 0, .int .i64 7, .int .i64 0, .int .i64 0, .int .i64 0, .int .i64 1, .int .i64 0, .int .i64 0, .int .i64 0, .int .i64 13, .int .i64 0, .int .i64 0, .int .i64 0] 27)).alloc (.cells #[.int .i64 1, .int .i64 (p3 : Int), .int .i64 0, .int .i64 0, .int .i64 6, .int .i64 0, .int .i64 0, .int .i64 0, .int .i64 13, .int .i64 0, .int .i64 0, .int .i64 0] 27)).alloc (.cells #[.int .i64 1, .int .i64 (7 + (p6 : Int)), .int .i64 0, .int .i64 0, .int .i64 6, .int .i64 0, .int .i64 0, .int .i64 0, .int .i64 13, .int .i64 0, .int .i64 0, .int .i64 0] 27)).alloc (.cells #[.int .i64 12, .int .i64 0, .int .i64 (1 + (p7 : Int)), .int .i64 0, .int .i64 13, .int .i64 0, .int .i64 0, .int .i64 0] 27)).alloc (.cells #[.int .i64 12, .int .i64 (2 + (p3 : Int)), .int .i64 0, .int .i64 0, .int .i64 13, .int .i64 0, .int .i64 0, .int .i64 0] 27)).alloc (.cells #[.int .i64 1, .int .i64 0, .int .i64 0, .int .i64 0, .int .i64 1, .int .i64 0, .int .i64 0, .int .i64 0, .int .i64 12, .int .i64 0, .int .i64 0, .int .i64 2, .int .i64 13, .int .i64 0, .int .i64 0, .int .i64 0] 27)).alloc (.cells #[.int .i64 12, .int .i64 0, .int .i64 0, .int .i64 1, .int .i64 13, .int .i64 0, .int .i64 0, .int .i64 0] 27)).alloc (.cells #[.int .i64 2, .int .i64 0, .int .i64 0, .int .i64 0] 27)).alloc (.cells #[.int .i64 13, .int .i64 0, .int .i64 0, .int .i64 0] 27)).alloc (.cells #[.int .i64 9, .int .i64 (5 + (p5 : Int)), .int .i64 0, .int .i64 0] 27)).alloc (.cells #[.int .i64 1, .int .i64 0, .int .i64 0, .int .i64 0, .int .i64 9, .int .i64 0, .int .i64 0, .int .i64 0] 27)).alloc (.cells #[.slice (some ⟨w.heap.size, 0, none⟩) 5 5, .slice (some ⟨w.heap.size + 1, 0, none⟩) 3 3, .slice (some ⟨w.heap.size + 1 + 1, 0, none⟩) 3 3, .slice (some ⟨w.heap.size + 1 + 1 + 1, 0, none⟩) 2 2, .slice (some ⟨w.heap.size + 1 + 1 + 1 + 1, 0, none⟩) 2 2, .slice (some ⟨w.heap.size + 1 + 1 + 1 + 1 + 1, 0, none⟩) 4 4, .slice (some ⟨w.heap.size + 1 + 1 + 1 + 1 + 1 + 1, 0, none⟩) 2 2, .slice (some ⟨w.heap.size + 1 + 1 + 1 + 1 + 1 + 1 + 1, 0, none⟩) 1 1, .slice (some ⟨w.heap.size + 1 + 1 + 1 + 1 + 1 + 1 + 1 + 1, 0, none⟩) 1 1, .slice (some ⟨w.heap.size + 1 + 1 + 1 + 1 + 1 + 1 + 1 + 1 + 1, 0, none⟩) 1 1, .slice (some ⟨w.heap.size + 1 + 1 + 1 + 1 + 1 + 1 + 1 + 1 + 1 + 1, 0, none⟩) 2 2] 28)) := ⟨_, rfl⟩
  obtain ⟨hbW, hsW, hat⟩ := made w p3 p6 p7 p5 W hW
  obtain ⟨hci, hhi⟩ := hat i hi
  have hwall := walls p3 p6 p7 p5 h3 h6 h7 h5 i hi
  obtain ⟨m, em⟩ : ∃ m, m = (codeAt p3 p6 p7 p5 i).length := ⟨_, rfl⟩
  have k19 : ∀ V, V = W → Calls Tryd.prog 19 #[.slice (some ⟨w.heap.size + i, 0, none⟩) m m, .int .i64 4, .int .i64 1000] V fun e w' => Below W.heap.size W w' ∧ ∃ aT cT g cD aC nC cC, e = .returned (.tuple #[.agg #[.int .i64 4, .int .i64 0, .slice aT 0 cT, .slice (some ⟨g, 0, none⟩) 7 cD, .slice aC nC cC], .bool true]) ∧ Hid (∀ i, i < 7 → w'.cell? ⟨g, i, none⟩ = some (.int .i64 0)) ∧ g < w'.heap.size := fun V h => by
    subst h
    rw [em]
    exact wall_run _ hwall V _ (Lies_below hl hbW) hhi
  rw [← em] at hci
  have hiI : (i : Int) < 11 := by omega
  have h3I : (p3 : Int) < 3 := by omega
  have h6I : (p6 : Int) < 60000 := by omega
  have h7I : (p7 : Int) < 7 := by omega
  have h5I : (p5 : Int) < 50 := by omega
  have hmk : ∀ w, (Instr.makeSlice 29 (.int .i64 7) (.int .i64 7)).run Tryd.prog w = .ok (.slice (some ⟨w.heap.size, 0, none⟩) 7 7) (w.alloc (.cells #[.int .i64 0, .int .i64 0, .int .i64 0, .int .i64 0, .int .i64 0, .int .i64 0, .int .i64 0] 3)) := fun w => run_make_row' 29 3 (.int .i64 0) 8 Tryd.underlying29 info3 rfl .i64 .i64 7 (by decide) (by decide) w |>.trans (by rw [show madeCells #[Value.int .i64 0] 7 = #[.int .i64 0, .int .i64 0, .int .i64 0, .int .i64 0, .int .i64 0, .int .i64 0, .int .i64 0] by kernel_rfl])
  have HW : Hid _ := hW
  have HBW : Hid _ := hbW
  have K19 : Hid _ := k19
  clear hW hbW hsW hat hhi hwall em k19 hl h3 h6 h7 h5 hi
  go_enter Tryd.func7, Tryd.ntmps7
  go_wp2_with (go_at_call_of 9 n; refine (kn _ _ (by decide) (by decide)).mono ?_; rintro e w' ⟨rfl, rfl⟩)
  rw [← HW.out]
  go_wp2_with (first
    | (go_at_call_of 9 q; refine (kq _).mono ?_; rintro e w' ⟨rfl, rfl⟩)
    | (go_at_call 19; refine (K19.out _ rfl).mono ?_; rintro e w4 ⟨hb4, aT, cT, g, cD, aC, nC, cC, rfl, HC, hg⟩; have HB4 : Hid _ := hb4; clear hb4))
  go_region_with (go_at_call 12; refine (equal 7 (by decide) g cD _ 7 (fun _ => 0) _ (fun i hi => (Below.cell (B := w4.heap.size) (w := w4) (p := ⟨g, i, none⟩) (by exact bel_of (by (try simp only [heap_drew, size_at]); omega) (fun k hk => by first | rfl | (simp only [heap_drew, heap_get, size_at]; (try (repeat rw [if_neg (by omega)])))) rfl rfl rfl) hg).trans (HC.out i hi)) (fun i hi => zero_at7 (by (simp only [heap_drew, heap_get, size_at, if_true]; (repeat first | rw [if_pos (by omega)] | rw [if_neg (by omega)]))) i hi)).mono ?_; rintro e w5 ⟨rfl, hb5⟩; have d2 : w5.cell? ⟨w4.heap.size, 2, none⟩ = some (.slice aT 0 cT) := ((hb5.cell (p := ⟨w4.heap.size, 2, none⟩) (by show w4.heap.size < _; (try simp only [heap_drew, size_at]); omega)).trans (cell_of_heap (cs := #[.int .i64 4, .int .i64 0, .slice aT 0 cT, .slice (some ⟨g, 0, none⟩) 7 cD, .slice aC nC cC]) (t := 41) (by (simp only [heap_drew, heap_get, size_at, if_true]; (repeat first | rw [if_pos (by omega)] | rw [if_neg (by omega)]))) rfl)); have HB45 : Hid (Below w4.heap.size w4 w5) := (Below.trans (by exact bel_of (by (try simp only [heap_drew, size_at]); omega) (fun k hk => by first | rfl | (simp only [heap_drew, heap_get, size_at]; (try (repeat rw [if_neg (by omega)])))) rfl rfl rfl) (hb5.mono (by (try simp only [heap_drew, size_at]); omega))); clear hb5)
  all_goals
    go_wp2
    go_ret
    have e1 := HBW.out.trans (HB4.out.mono HBW.out.size)
    exact ⟨rfl, e1.trans (HB45.out.mono e1.size)⟩
end Go.Proofs.YtmmcpjmgindpkacDoor.Walls
