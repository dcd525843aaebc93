/-
  WHAT 'picked', slices.Equal AND 'image' OF barbicankeep GIVE.
  Conditions: each contract's own hypotheses.
-/
import Derived.Test.YtmmcpjmgindpkacDoorMRun
namespace Go.Proofs.YtmmcpjmgindpkacDoor.Keep
open Go.RowKit Tab Go.Proofs.YtmmcpjmgindpkacDoor.Check Lists Go.Proofs.YtmmcpjmgindpkacDoor.Read Img Mach Own Go.Proofs.YtmmcpjmgindpkacDoor.Inv MRun

/-- What 'picked' gives. -/
def pk (n : Int) (m : Nat) : Nat := ((if n < 0 then -(n + 1) else n) % m).toNat

theorem pk_lt (n : Int) (m : Nat) (hm : 0 < m) : pk n m < m := by
  unfold pk
  have h := Int.emod_lt_of_pos (if n < 0 then -(n + 1) else n) (show (0 : Int) < m by omega)
  have h0 := Int.emod_nonneg (if n < 0 then -(n + 1) else n) (show (m : Int) ≠ 0 by omega)
  omega

theorem pk_eq (n : Int) (m : Nat) (hm : 0 < m) : ((pk n m : Nat) : Int) = (if n < 0 then -(n + 1) else n) % m := by
  unfold pk
  exact Int.toNat_of_nonneg (Int.emod_nonneg _ (by omega))

theorem picked (n : Int) (wn : (Lit.int .i64 n).wf = true) (m : Nat) (hm : 0 < m) (hm' : m ≤ 65536) (w : World) :
    Calls Tryd.prog 9 #[.int .i64 n, .int .i64 m] w fun e w' => e = .returned (.int .i64 (pk n m : Nat)) ∧ w' = w := by
  have hb := bounds_i64 wn
  have he := pk_eq n m hm
  by_cases c : n < 0
  · rw [if_pos c] at he
    go_enter Tryd.func9, Tryd.ntmps9
    go_wp2
    go_ret
    exact ⟨by simp [he]; rw [← Int.neg_tmod]; exact Int.tmod_eq_emod_of_nonneg (by omega), rfl⟩
  · rw [if_neg c] at he
    go_enter Tryd.func9, Tryd.ntmps9
    go_wp2
    go_ret
    exact ⟨by simp, rfl⟩

theorem equal (n : Nat) (hn : n ≤ 1000000) (g cap g' cap' : Nat) (z : Nat → Int) (w : World) (c : ∀ i, i < n → w.cell? ⟨g, i, none⟩ = some (.int .i64 (z i))) (c' : ∀ i, i < n → w.cell? ⟨g', i, none⟩ = some (.int .i64 (z i))) :
    Calls Tryd.prog 12 #[.slice (some ⟨g, 0, none⟩) n cap, .slice (some ⟨g', 0, none⟩) n cap'] w fun e w' => e = .returned (.bool true) ∧ Below w.heap.size w w' := by
  have hn2 : (n : Int) ≤ 1000000 := by omega
  go_enter Tryd.func12, Tryd.ntmps12
  go_wp2
  go_loopw [13] (fun i wr => ∃ k : Nat, k ≤ n ∧ i = .int .i64 k ∧ Below w.heap.size w wr) (fun i _ => n - (intOf i).toNat)
  case atStart => exact ⟨0, Nat.zero_le _, rfl, Below.refl _ _⟩
  case round =>
    obtain ⟨k, hk, rfl, hbel⟩ := hrel
    by_cases hkn : k < n
    · have hkI : (k : Int) < n := by omega
      have q := c k hkn
      have q' := c' k hkn
      have s := (hbel.cell (p := ⟨g, k, none⟩) (World.block_lt_of_cell? w _ q)).trans q
      have s' := (hbel.cell (p := ⟨g', k, none⟩) (World.block_lt_of_cell? w _ q')).trans q'
      clear q q' c c'
      go_wp2
      go_quiet (fail)
      go_wp2
      go_roundw
      case rel => exact ⟨k + 1, by omega, by go_num, ⟨hbel.os, hbel.tape, hbel.output, hbel.size, hbel.block⟩⟩
      case measure => simp [intOf]; omega
    · obtain rfl : k = n := by omega
      clear c c'
      go_wp2
      go_ret
      exact ⟨rfl, hbel⟩

/-- a block of cells in a world, read cell by cell -/
theorem cell_of_heap {w : World} {g i : Nat} {cs : Array Value} {t : TypeId} {v : Value} (h : w.heap[g]? = some (.cells cs t)) (hv : cs[i]? = some v) : w.cell? ⟨g, i, none⟩ = some v := by
  simp [World.cell?, h, hv]

theorem size_at (w : World) (o : Obj) : (w.alloc o).heap.size = w.heap.size + 1 := by
  show (w.heap.push o).size = _
  rw [Array.size_push]

theorem old_at (w : World) (o : Obj) (i : Nat) (h : i < w.heap.size) : (w.alloc o).heap[i]? = w.heap[i]? := Below.heap_alloc w o i h

theorem five (w : World) (o0 o1 o2 o3 o4 : Obj) : let W := ((((w.alloc o0).alloc o1).alloc o2).alloc o3).alloc o4
    W.heap[w.heap.size]? = some o0 ∧ W.heap[w.heap.size + 1]? = some o1 ∧ W.heap[w.heap.size + 1 + 1]? = some o2 ∧ W.heap[w.heap.size + 1 + 1 + 1]? = some o3 ∧ W.heap[w.heap.size + 1 + 1 + 1 + 1]? = some o4 := by
  intro W
  have s1 := size_at w o0
  have s2 := (size_at (w.alloc o0) o1).trans (by rw [s1])
  have s3 := (size_at ((w.alloc o0).alloc o1) o2).trans (by rw [s2])
  have s4 := (size_at (((w.alloc o0).alloc o1).alloc o2) o3).trans (by rw [s3])
  have n0 := heap_alloc_new w o0
  have n1 := heap_alloc_new (w.alloc o0) o1
  have n2 := heap_alloc_new ((w.alloc o0).alloc o1) o2
  have n3 := heap_alloc_new (((w.alloc o0).alloc o1).alloc o2) o3
  have n4 := heap_alloc_new ((((w.alloc o0).alloc o1).alloc o2).alloc o3) o4
  rw [s1] at n1
  rw [s2] at n2
  rw [s3] at n3
  rw [s4] at n4
  refine ⟨?_, ?_, ?_, ?_, n4⟩
  · rw [old_at _ _ _ (by rw [s4]; omega), old_at _ _ _ (by rw [s3]; omega), old_at _ _ _ (by rw [s2]; omega), old_at _ _ _ (by rw [s1]; omega)]
    exact n0
  · rw [old_at _ _ _ (by rw [s4]; omega), old_at _ _ _ (by rw [s3]; omega), old_at _ _ _ (by rw [s2]; omega)]
    exact n1
  · rw [old_at _ _ _ (by rw [s4]; omega), old_at _ _ _ (by rw [s3]; omega)]
    exact n2
  · rw [old_at _ _ _ (by rw [s4]; omega)]
    exact n3


/-- the two parts of the image, b: where its blocks begin, cb: where the second part's code lies -/
def parts (b cb n nw : Nat) (o a bb c : Nat → Int) : Nat → PartD
  | 0 => ⟨some ⟨b + 1, 0, none⟩, 2, 2, fun k => if k = 0 then 4 else 13, fun _ => 0, fun _ => 0, fun _ => 0, some ⟨b + 1 + 1, 0, none⟩, 1, 1, fun _ => 0, fun _ => 1, 0, 3⟩
  | _ => ⟨some ⟨cb, 0, none⟩, n, n, o, a, bb, c, some ⟨b + 1 + 1 + 1, 0, none⟩, 1, 1, fun _ => 0, fun _ => 0, 3, 3 + nw⟩

theorem lies5 (w : World) (cb n nw : Nat) (o a b c : Nat → Int) (hin : Instrs w (some ⟨cb, 0, none⟩) n o a b c) (W : World)
    (hb : Below w.heap.size w W) (h1 : W.heap[w.heap.size + 1]? = some (.cells #[.int .i64 4, .int .i64 0, .int .i64 0, .int .i64 0, .int .i64 13, .int .i64 0, .int .i64 0, .int .i64 0] 27))
    (h2 : W.heap[w.heap.size + 1 + 1]? = some (.cells #[.int .i64 0, .int .i64 1] 52)) (h3 : W.heap[w.heap.size + 1 + 1 + 1]? = some (.cells #[.int .i64 0, .int .i64 0] 52))
    (h4 : W.heap[w.heap.size + 1 + 1 + 1 + 1]? = some (.cells #[.slice (some ⟨w.heap.size + 1, 0, none⟩) 2 2, .slice (some ⟨w.heap.size + 1 + 1, 0, none⟩) 1 1, .int .i64 0, .int .i64 3, .slice (some ⟨cb, 0, none⟩) n n, .slice (some ⟨w.heap.size + 1 + 1 + 1, 0, none⟩) 1 1, .int .i64 3, .int .i64 (3 + nw)] 55)) :
    Parts W (some ⟨w.heap.size + 1 + 1 + 1 + 1, 0, none⟩) 2 (parts w.heap.size cb n nw o a b c) := by
  intro k hk
  match k, hk with
  | 0, _ =>
    refine ⟨⟨_, _, rfl, cell_of_heap h4 rfl, cell_of_heap h4 rfl, cell_of_heap h4 rfl, cell_of_heap h4 rfl⟩, ?_, ?_⟩
    · intro i hi
      match i, hi with
      | 0, _ => exact ⟨_, _, rfl, cell_of_heap h1 rfl, cell_of_heap h1 rfl, cell_of_heap h1 rfl, cell_of_heap h1 rfl⟩
      | 1, _ => exact ⟨_, _, rfl, cell_of_heap h1 rfl, cell_of_heap h1 rfl, cell_of_heap h1 rfl, cell_of_heap h1 rfl⟩
    · intro i hi
      match i, hi with
      | 0, _ => exact ⟨_, _, rfl, cell_of_heap h2 rfl, cell_of_heap h2 rfl⟩
  | 1, _ =>
    refine ⟨⟨_, _, rfl, cell_of_heap h4 rfl, cell_of_heap h4 rfl, cell_of_heap h4 rfl, cell_of_heap h4 rfl⟩, Instrs_below hin hb, ?_⟩
    intro i hi
    match i, hi with
    | 0, _ => exact ⟨_, _, rfl, cell_of_heap h3 rfl, cell_of_heap h3 rfl⟩

set_option maxRecDepth 100000 in
theorem image (cb n nw : Nat) (hnw : nw ≤ 100) (o a b c : Nat → Int) (w : World) (hin : Instrs w (some ⟨cb, 0, none⟩) n o a b c) :
    Calls Tryd.prog 8 #[.slice (some ⟨cb, 0, none⟩) n n, .int .i64 nw] w fun e w' => e = .returned (.agg #[.slice (some ⟨w.heap.size + 1 + 1 + 1 + 1, 0, none⟩) 2 2]) ∧ Below w.heap.size w w' ∧ w'.heap.size = w.heap.size + 1 + 1 + 1 + 1 + 1 ∧ Parts w' (some ⟨w.heap.size + 1 + 1 + 1 + 1, 0, none⟩) 2 (parts w.heap.size cb n nw o a b c) := by
  have key := lies5 w cb n nw o a b c hin
  have hI : (nw : Int) ≤ 100 := by omega
  have KEY : Hid _ := key
  clear hin key hnw
  go_enter Tryd.func8, Tryd.ntmps8
  go_wp2
  refine bodyPost_ret (results_cell_row rfl _ _ w.heap.size 24 #[.slice (some ⟨w.heap.size + 1 + 1 + 1 + 1, 0, none⟩) 2 2] (0, 0) _ rfl ?_ Tryd.underlying24 rfl (by kernel_rfl)) rfl ?_
  · exact (five w _ _ _ _ _).1
  · have h5 := five w (.cells #[.slice (some ⟨w.heap.size + 1 + 1 + 1 + 1, 0, none⟩) 2 2] 24) (.cells #[.int .i64 4, .int .i64 0, .int .i64 0, .int .i64 0, .int .i64 13, .int .i64 0, .int .i64 0, .int .i64 0] 27) (.cells #[.int .i64 0, .int .i64 1] 52) (.cells #[.int .i64 0, .int .i64 0] 52) (.cells #[.slice (some ⟨w.heap.size + 1, 0, none⟩) 2 2, .slice (some ⟨w.heap.size + 1 + 1, 0, none⟩) 1 1, .int .i64 0, .int .i64 3, .slice (some ⟨cb, 0, none⟩) n n, .slice (some ⟨w.heap.size + 1 + 1 + 1, 0, none⟩) 1 1, .int .i64 3, .int .i64 (3 + nw)] 55)
    have hb := (((((Below.refl w.heap.size w).alloc (Nat.le_refl _) (.cells #[.slice (some ⟨w.heap.size + 1 + 1 + 1 + 1, 0, none⟩) 2 2] 24)).alloc (by simp) (.cells #[.int .i64 4, .int .i64 0, .int .i64 0, .int .i64 0, .int .i64 13, .int .i64 0, .int .i64 0, .int .i64 0] 27)).alloc (by simp; omega) (.cells #[.int .i64 0, .int .i64 1] 52)).alloc (by simp; omega) (.cells #[.int .i64 0, .int .i64 0] 52)).alloc (by simp; omega) (.cells #[.slice (some ⟨w.heap.size + 1, 0, none⟩) 2 2, .slice (some ⟨w.heap.size + 1 + 1, 0, none⟩) 1 1, .int .i64 0, .int .i64 3, .slice (some ⟨cb, 0, none⟩) n n, .slice (some ⟨w.heap.size + 1 + 1 + 1, 0, none⟩) 1 1, .int .i64 3, .int .i64 (3 + nw)] 55)
    exact ⟨rfl, hb, by simp, KEY.out _ hb h5.2.1 h5.2.2.1 h5.2.2.2.1 h5.2.2.2.2⟩
end Go.Proofs.YtmmcpjmgindpkacDoor.Keep
