/-
  THE WALK OF THE LAW 'barbicankeep.StoresLoad', for every place, number and part that it picks: the call returns true, and lays new memory alone.
  Conditions: the table 'code.bounds' lies there.
-/
import Derived.Test.YthjfnpbdmknokacDoorKeep
namespace Go.Proofs.YthjfnpbdmknokacDoor.Run
open Go.RowKit Tab Go.Proofs.YthjfnpbdmknokacDoor.Check Lists Go.Proofs.YthjfnpbdmknokacDoor.Read Img Keep Go.Proofs.YthjfnpbdmknokacDoor.Store

/-- the words that are stored into: 1 to 7 -/
def words (i : Nat) : Int := (i : Int) + 1

theorem first_all {f : Nat → Int} {n : Nat} (h : ∀ k, k < n → f k = 0) : first f n = 0 := by
  induction n with
  | zero => rfl
  | succ n ih => rw [first_succ (ih fun k hk => h k (by omega))]; exact h n (by omega)

theorem data_ok (b cb : Nat) (z : Nat → Int) (hz : ∀ i, i < 7 → 0 ≤ z i ∧ z i ≤ 65535) : dataFault (parts b cb) 2 z 7 = 0 := by
  rw [dataFault, if_pos (image_ok b cb), if_pos (show ((7 : Nat) : Int) = begins (parts b cb) 2 from rfl)]
  exact first_all fun k hk => if_pos (hz k hk)

theorem words_ok (i : Nat) (hi : i < 7) : 0 ≤ words i ∧ words i ≤ 65535 := by unfold words; omega

/-- what lies there when words are stored, and behind it -/
theorem prep {w1 : World} {g b cb : Nat} (hl : Lies w1) (hp : Parts w1 (some ⟨g, 0, none⟩) 2 (parts b cb)) (w' : World) (hb : Below ((w1.alloc (.cells #[.slice (some ⟨g, 0, none⟩) 2 2] 24)).alloc (.cells #[.int .i64 1, .int .i64 2, .int .i64 3, .int .i64 4, .int .i64 5, .int .i64 6, .int .i64 7] 3)).heap.size ((w1.alloc (.cells #[.slice (some ⟨g, 0, none⟩) 2 2] 24)).alloc (.cells #[.int .i64 1, .int .i64 2, .int .i64 3, .int .i64 4, .int .i64 5, .int .i64 6, .int .i64 7] 3)) w') :
    Lies w' ∧ Parts w' (some ⟨g, 0, none⟩) 2 (parts b cb) ∧ Ints w' (some ⟨w1.heap.size + 1, 0, none⟩) 7 words ∧ w'.cell? ⟨w1.heap.size, 0, none⟩ = some (.slice (some ⟨g, 0, none⟩) 2 2) := by
  have h2 := below2 w1 (.cells #[.slice (some ⟨g, 0, none⟩) 2 2] 24) (.cells #[.int .i64 1, .int .i64 2, .int .i64 3, .int .i64 4, .int .i64 5, .int .i64 6, .int .i64 7] 3)
  have h3 := h2.trans (hb.mono h2.size)
  have s1 := size_at w1 (.cells #[.slice (some ⟨g, 0, none⟩) 2 2] 24)
  have s2 := (size_at (w1.alloc (.cells #[.slice (some ⟨g, 0, none⟩) 2 2] 24)) (.cells #[.int .i64 1, .int .i64 2, .int .i64 3, .int .i64 4, .int .i64 5, .int .i64 6, .int .i64 7] 3)).trans (by rw [s1])
  have n1 := heap_alloc_new (w1.alloc (.cells #[.slice (some ⟨g, 0, none⟩) 2 2] 24)) (.cells #[.int .i64 1, .int .i64 2, .int .i64 3, .int .i64 4, .int .i64 5, .int .i64 6, .int .i64 7] 3)
  rw [s1] at n1
  have n0 : ((w1.alloc (.cells #[.slice (some ⟨g, 0, none⟩) 2 2] 24)).alloc (.cells #[.int .i64 1, .int .i64 2, .int .i64 3, .int .i64 4, .int .i64 5, .int .i64 6, .int .i64 7] 3)).heap[w1.heap.size]? = some (.cells #[.slice (some ⟨g, 0, none⟩) 2 2] 24) := (old_at _ _ _ (by rw [s1]; omega)).trans (heap_alloc_new w1 _)
  refine ⟨Lies_below hl h3, Parts_below hp h3, fun k hk => ⟨_, _, rfl, fun i hi => ?_⟩, ?_⟩
  · refine (hb.cell (show (⟨w1.heap.size + 1, 0 + i, none⟩ : Addr).block < _ by rw [s2]; simp)).trans ?_
    rw [Nat.zero_add]
    match i, hi with
    | 0, _ => exact cell_of_heap n1 rfl
    | 1, _ => exact cell_of_heap n1 rfl
    | 2, _ => exact cell_of_heap n1 rfl
    | 3, _ => exact cell_of_heap n1 rfl
    | 4, _ => exact cell_of_heap n1 rfl
    | 5, _ => exact cell_of_heap n1 rfl
    | 6, _ => exact cell_of_heap n1 rfl
  · refine (hb.cell (show (⟨w1.heap.size, 0, none⟩ : Addr).block < _ by rw [s2]; simp; omega)).trans ?_
    exact cell_of_heap n0 rfl

theorem code_lies (w : World) : Instrs (w.alloc (.cells #[.int .i64 15, .int .i64 0, .int .i64 0, .int .i64 0] 27)) (some ⟨w.heap.size, 0, none⟩) 1 (fun _ => 15) (fun _ => 0) (fun _ => 0) (fun _ => 0) := by
  intro k hk
  match k, hk with
  | 0, _ =>
    have h := heap_alloc_new w (.cells #[.int .i64 15, .int .i64 0, .int .i64 0, .int .i64 0] 27)
    exact ⟨_, _, rfl, cell_of_heap h rfl, cell_of_heap h rfl, cell_of_heap h rfl, cell_of_heap h rfl⟩

theorem set_at (z : Nat → Int) (n j : Nat) (x : Int) : ∀ i, i < n → ((row z n).set j (.int .i64 x))[i]? = some (.int .i64 (if i = j then x else z i)) := by
  intro i hi
  by_cases h : i = j
  · subst h
    rw [List.getElem?_set_self (by rw [row_length]; exact hi), if_pos rfl]
  · rw [List.getElem?_set_ne (fun e => h e.symm), if_neg h, row_at z n i hi]

/-- the row that was stored into holds its numbers -/
theorem set_ints {w : World} {B g cp j v : Nat} (h : w.ownsRow B 3 1 (.slice (some ⟨g, 0, none⟩) 7 cp) 7 ((row words 7).set j (.int .i64 v))) : Ints w (some ⟨g, 0, none⟩) 7 (fun i => if i = j then (v : Int) else words i) :=
  fun _ _ => ⟨g, 0, rfl, fun i hi => by rw [Nat.zero_add]; exact (h.cellAt i (by omega)).trans (set_at words 7 j v i hi)⟩

theorem ints_at {w : World} {bl n : Nat} {z : Nat → Int} (h : Ints w (some ⟨bl, 0, none⟩) n z) (i : Nat) (hi : i < n) : w.cell? ⟨bl, i, none⟩ = some (.int .i64 (z i)) := by
  obtain ⟨bl', off, e, hc⟩ := h i hi
  simp only [Option.some.injEq, Addr.mk.injEq, and_true] at e
  obtain ⟨rfl, rfl⟩ := e
  have := hc i hi
  rwa [Nat.zero_add] at this

theorem ints_all {w : World} {bl n : Nat} {z : Nat → Int} (h : Ints w (some ⟨bl, 0, none⟩) n z) : ∀ i, i < n → w.cell? ⟨bl, i, none⟩ = some (.int .i64 (z i)) := fun i hi => ints_at h i hi

/-- .. and behind the store of what was there it holds what it held -/
theorem set_back {w : World} {B g cp j v : Nat} (h : w.ownsRow B 3 1 (.slice (some ⟨g, 0, none⟩) 7 cp) 7 ((row words 7).set j (.int .i64 v))) (hj : j < 7) : ∀ i, i < 7 → (w.setCell ⟨g, j, none⟩ (.int .i64 (words j))).cell? ⟨g, i, none⟩ = some (.int .i64 (words i)) := by
  intro i hi
  have h2 := (h.stored j (.int .i64 (words j))).1
  rw [h2.cellAt i (by omega)]
  by_cases e : i = j
  · subst e
    rw [List.getElem?_set_self (by simp [row_length]; omega)]
  · rw [List.getElem?_set_ne (fun e' => e e'.symm), set_at words 7 j v i hi, if_neg e]

end Go.Proofs.YthjfnpbdmknokacDoor.Run
