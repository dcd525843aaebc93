/-
  WHAT eval.copied GIVES: the same numbers, in memory of their own.
  Conditions: the numbers lie there; the list takes no more bytes than one that is handed in may.
-/
import Derived.Test.YtalnfnkpemojhaaECells
import Derived.Laws.CopyOwn
import Derived.Laws.OwnMore
namespace Go.Proofs.Ytalnfnkpemojhaa.ECopied
open Go.RowKit ECells

theorem infoInt : (Try.prog.info? 3).map (fun i => (i.zero, i.size, i.bytes)) = some (some (.int .i64 0), 1, 8) := by kernel_rfl

/-- numbers lie in a block from B on -/
def New (w : World) (B : Nat) (ao : Option Addr) (len : Nat) (z : Nat → Int) : Prop := ∀ i, i < len → ∃ bl off, ao = some ⟨bl, off, none⟩ ∧ B ≤ bl ∧ w.cell? ⟨bl, off + i, none⟩ = some (.int .i64 (z i))

theorem New_below {w w' : World} {B : Nat} (hb : Below w.heap.size w w') {ao : Option Addr} {len : Nat} {z : Nat → Int} (h : New w B ao len z) : New w' B ao len z := fun i hi => by
  obtain ⟨bl, off, e, h0, t⟩ := h i hi
  exact ⟨bl, off, e, h0, (hb.cell (World.block_lt_of_cell? w _ t)).trans t⟩
theorem New_mono {w : World} {B B' : Nat} (hB : B' ≤ B) {ao : Option Addr} {len : Nat} {z : Nat → Int} (h : New w B ao len z) : New w B' ao len z := fun i hi => by
  obtain ⟨bl, off, e, h0, t⟩ := h i hi
  exact ⟨bl, off, e, Nat.le_trans hB h0, t⟩
theorem New_nums {w : World} {B : Nat} {ao : Option Addr} {len : Nat} {z : Nat → Int} (h : New w B ao len z) : Nums w ao len z := fun i hi => by
  obtain ⟨bl, off, e, _, t⟩ := h i hi
  exact ⟨bl, off, e, t⟩
/-- a cell of a block ahead of them is written -/
theorem New_set {w : World} {B b o : Nat} (hb : b < B) {ao : Option Addr} {len : Nat} {z : Nat → Int} (h : New w B ao len z) (u : Value) : New (w.setCell ⟨b, o, none⟩ u) B ao len z := fun i hi => by
  obtain ⟨bl, off, e, h0, t⟩ := h i hi
  exact ⟨bl, off, e, h0, by rw [World.cell?_setCell_other (h := fun e => by injection e with e1; omega)]; exact t⟩

/-- the first n numbers, as cells -/
def row (z : Nat → Int) (n : Nat) : List Value := (List.range n).map fun i => .int .i64 (z i)
theorem row_length (z : Nat → Int) (n : Nat) : (row z n).length = n := by simp [row]
theorem row_at (z : Nat → Int) (n i : Nat) (hi : i < n) : (row z n)[i]? = some (.int .i64 (z i)) := by simp [row, hi]
theorem row_one (z : Nat → Int) (n : Nat) : ∀ u ∈ row z n, u.oneCell' = true := by
  intro u hu
  simp only [row, List.mem_map] at hu
  obtain ⟨i, _, rfl⟩ := hu
  rfl
/-- where numbers lie, their row is read -/
theorem row_cells {w : World} {ad : Addr} {n : Nat} {z : Nat → Int} (h : Nums w (some ad) n z) : ∀ j u, (row z n)[j]? = some u → w.cell? (ad.add j) = some u := by
  intro j u hu
  have hj : j < n := by
    have := (List.getElem?_eq_some_iff.1 hu).1
    rwa [row_length] at this
  obtain ⟨bl, off, e, t⟩ := h j hj
  obtain rfl := Option.some.inj e
  rw [row_at z n j hj] at hu
  rw [Go.WideShapes.add_plain, t]
  exact hu

/-- a made list's block -/
theorem made_heap {w : World} {g n B : Nat} {e : TypeId} {xs : List Value} (h : w.ownsRow B e 1 (.slice (some ⟨g, 0, none⟩) n n) n xs) : ∃ L : List Value, L.length = n ∧ w.heap[g]? = some (.cells L.toArray e (0, 0)) := by
  rcases h.2 with ⟨h', _⟩ | ⟨g', cap', cur, h', _, hg, _, _, hs, _⟩
  · simp at h'
  · simp only [Value.slice.injEq, Option.some.injEq, Addr.mk.injEq, and_true, true_and] at h'
    obtain ⟨rfl, rfl⟩ := h'
    exact ⟨cur.toList, by simpa using hs, by simpa using hg⟩

theorem splice_whole {L R : List Value} {n : Nat} (hR : R.length = n) (hL : L.length = n) : splice L 0 R = R := by simp [splice, hR, hL]

theorem new_of_heap {w : World} {g n B : Nat} {e : TypeId} {z : Nat → Int} {L : List Value} (hB : B ≤ g) (hL : L.length = n) (h : w.heap[g]? = some (.cells (splice L 0 (row z n)).toArray e (0, 0))) : New w B (some ⟨g, 0, none⟩) n z := fun i hi => by
  rw [splice_whole (row_length z n) hL] at h
  exact ⟨g, 0, rfl, hB, by simp [World.cell?, h, row_at z n i hi]⟩

set_option maxHeartbeats 1000000 in
theorem copied (w : World) (ao : Option Addr) (len cap : Nat) (z : Nat → Int) (hl : len * 8 ≤ 140737488355328) (h : Nums w ao len z) :
    Calls Try.prog 48 #[.slice ao len cap] w fun e w' => Below w.heap.size w w' ∧ ∃ r, e = .returned (.slice r len len) ∧ New w' w.heap.size r len z := by
  obtain ⟨i0, hi, hz0, hz1, hz2⟩ := info_parts infoInt
  have s1 : (Try.prog.info? 3).map (·.size) = some 1 := by rw [hi]; simp [hz1]
  have hmx : len ≤ maxLen := by unfold maxLen; omega
  have hlI : (len : Int) ≤ 140737488355328 := by omega
  have h8 : Hid (len * 8 ≤ 140737488355328) := hl
  obtain ⟨R, hR⟩ : ∃ R, R = row z len := ⟨_, rfl⟩
  have HRL : Hid (R.length = len) := by rw [hR]; exact row_length z len
  have H1 : ∀ u ∈ R, u.oneCell' = true := by rw [hR]; exact row_one z len
  have src : ∀ w', Below w.heap.size w w' → 0 < R.length → ∃ ad, ao = some ad ∧ ∀ i u, R[i]? = some u → w'.cell? (ad.add i) = some u := by
    intro w' hb h0
    rw [hR] at h0 ⊢
    rw [row_length] at h0
    obtain ⟨bl, off, e, _⟩ := h 0 h0
    subst e
    exact ⟨_, rfl, row_cells (Nums_below hb h)⟩
  have fin : ∀ (W : World) (L : List Value), L.length = len → W.heap[w.heap.size]? = some (.cells (splice L 0 R).toArray 3 (0, 0)) → New W w.heap.size (some ⟨w.heap.size, 0, none⟩) len z := fun W L hL hg => by
    rw [hR] at hg
    exact new_of_heap (Nat.le_refl _) hL hg
  have SRC : Hid _ := src
  have FIN : Hid _ := fin
  have HMX : Hid (len ≤ maxLen) := hmx
  clear src fin hR h hl hmx
  go_enter Try.func48, Try.ntmps48
  go_wp2_with (first
    | (at_make; refine wpList_make_full _ rfl _ _ 54 rfl w.heap.size 3 i0 (.int .i64 0) 1 Try.underlying54 hi hz0 hz1 .i64 .i64 _ _ len rfl rfl rfl rfl (by rw [hz2]; have := h8.out; omega) HMX.out (Nat.le_refl _) ?_; intro w4 hown4 hgrow4; obtain ⟨L, hL, hg4⟩ := made_heap hown4; have H4 : Hid (Below w.heap.size w w4) := (Below.refl w.heap.size w).grown hgrow4 (Nat.le_refl _) (by simp); have HL : Hid _ := hL; clear hL hown4 hgrow4)
    | ((with_reducible show wpList _ _ _ ({ dst := some 9, op := _, type := _, pos := _, after := _, guard := _ } :: _) _ _); refine wpList_copy_splice rfl (.tmp 7) (.tmp 8) 54 54 rfl 3 Try.underlying54 s1 _ _ len len len cap rfl rfl w.heap.size 0 L 3 hg4 R (by rw [HRL.out]; exact (Nat.min_self _).symm) (fun h0 => ⟨rfl, SRC.out _ H4.out h0⟩) (by rw [HRL.out, HL.out]; omega) H1 w.heap.size w H4.out (Nat.le_refl _) ?_; intro w5 hg5 hb5; have H5 : Hid (Below w.heap.size w w5) := hb5; have N5 := FIN.out w5 L HL.out hg5.out; have HN5 : Hid _ := N5; clear hg5 hb5 N5))
  go_ret
  exact ⟨H5.out, _, rfl, HN5.out⟩
end Go.Proofs.Ytalnfnkpemojhaa.ECopied
