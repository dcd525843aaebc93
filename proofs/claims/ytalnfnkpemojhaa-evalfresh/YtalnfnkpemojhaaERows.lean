/-
  ROWS OF LISTS THAT ARE MADE AND FILLED: what a later world keeps of them.
  Conditions: each lemma's own.
-/
import Derived.Test.YtalnfnkpemojhaaECopied
import Derived.Laws.Rows
import Derived.Laws.Tables
import Derived.Laws.ResultCell
namespace Go.Proofs.Ytalnfnkpemojhaa.ERows
open Go.RowKit ECells ECopied

theorem infoInts : (Try.prog.info? 54).map (fun i => (i.zero, i.size, i.bytes)) = some (some (.slice none 0 0), 1, 24) := by kernel_rfl

/-- a list of so many lists is made -/
theorem make_rows (n : Nat) (h : n * 24 ≤ 140737488355328) : ∃ M : Array Value, M.size = n ∧ ∀ W : World, (Instr.makeSlice 55 (.int .i64 n) (.int .i64 n)).run Try.prog W = .ok (.slice (some ⟨W.heap.size, 0, none⟩) n n) (W.alloc (.cells M 54)) := by
  obtain ⟨i0, hi, hz0, hz1, hz2⟩ := info_parts infoInts
  refine ⟨madeCells (Value.slice none 0 0).cells (n * 1), by simp [madeCells], fun W => ?_⟩
  have := run_make (P := Try.prog) W 55 54 i0 (.slice none 0 0) Try.underlying55 hi hz0 .i64 .i64 n n (by omega) (Int.le_refl _) (by rw [hz2]; omega) (by omega)
  rw [hz1] at this
  simpa using this

/-- n cells are there from the block's beginning on, and may be written -/
def RowAt (w : World) (g n : Nat) : Prop := ∀ i, i < n → (∃ v, w.cell? ⟨g, i, none⟩ = some v) ∧ w.frozen? ⟨g, i, none⟩ = false

theorem row_of_heap {w : World} {g : Nat} {M : Array Value} {t : TypeId} (h : w.heap[g]? = some (.cells M t)) : RowAt w g M.size := fun i hi =>
  ⟨⟨M[i], by simp [World.cell?, h, hi]⟩, by simp [World.frozen?, h]⟩
theorem RowAt_new (w : World) (M : Array Value) (t : TypeId) : RowAt (w.alloc (.cells M t)) w.heap.size M.size := row_of_heap (heap_alloc_new w (.cells M t))
theorem RowAt_below {w w' : World} {g n : Nat} (hb : Below w.heap.size w w') (h : RowAt w g n) : RowAt w' g n := fun i hi => by
  obtain ⟨⟨v, hv⟩, hf⟩ := h i hi
  have h0 := World.block_lt_of_cell? w _ hv
  exact ⟨⟨v, (hb.cell h0).trans hv⟩, (hb.frozen (p := ⟨g, i, none⟩) h0).trans hf⟩
theorem RowAt_alloc {w : World} {g n : Nat} (h : RowAt w g n) (o : Obj) : RowAt (w.alloc o) g n := RowAt_below ((Below.refl _ _).alloc (Nat.le_refl _) _) h
theorem RowAt_set {w : World} {g n : Nat} (h : RowAt w g n) (p : Addr) (u : Value) : RowAt (w.setCell p u) g n := fun i hi => by
  obtain ⟨⟨v, hv⟩, hf⟩ := h i hi
  refine ⟨?_, (World.frozen?_setCell _ _ _ _).trans hf⟩
  by_cases e : p = ⟨g, i, none⟩
  · subst e
    exact ⟨u, World.cell?_setCell_same _ _ _ hv⟩
  · exact ⟨v, by rw [World.cell?_setCell_other (h := e)]; exact hv⟩

/-- numbers lie in blocks from B on, none of them one of those -/
def Off (w : World) (B : Nat) (bad : Nat → Prop) (ao : Option Addr) (len : Nat) (z : Nat → Int) : Prop := ∀ i, i < len → ∃ bl off, ao = some ⟨bl, off, none⟩ ∧ B ≤ bl ∧ ¬ bad bl ∧ w.cell? ⟨bl, off + i, none⟩ = some (.int .i64 (z i))

theorem Off_new {w : World} {B B' : Nat} {bad : Nat → Prop} (hB : B' ≤ B) (hbad : ∀ b, B ≤ b → b < w.heap.size → ¬ bad b) {ao : Option Addr} {len : Nat} {z : Nat → Int} (h : New w B ao len z) : Off w B' bad ao len z := fun i hi => by
  obtain ⟨bl, off, e, h0, t⟩ := h i hi
  exact ⟨bl, off, e, Nat.le_trans hB h0, hbad bl h0 (World.block_lt_of_cell? w _ t), t⟩
theorem Off_below {w w' : World} {B : Nat} {bad : Nat → Prop} (hb : Below w.heap.size w w') {ao : Option Addr} {len : Nat} {z : Nat → Int} (h : Off w B bad ao len z) : Off w' B bad ao len z := fun i hi => by
  obtain ⟨bl, off, e, h0, h1, t⟩ := h i hi
  exact ⟨bl, off, e, h0, h1, (hb.cell (World.block_lt_of_cell? w _ t)).trans t⟩
theorem Off_alloc {w : World} {B : Nat} {bad : Nat → Prop} {ao : Option Addr} {len : Nat} {z : Nat → Int} (h : Off w B bad ao len z) (o : Obj) : Off (w.alloc o) B bad ao len z := Off_below ((Below.refl _ _).alloc (Nat.le_refl _) _) h
theorem Off_set {w : World} {B : Nat} {bad : Nat → Prop} {ao : Option Addr} {len : Nat} {z : Nat → Int} (h : Off w B bad ao len z) {p : Addr} (hp : bad p.block) (u : Value) : Off (w.setCell p u) B bad ao len z := fun i hi => by
  obtain ⟨bl, off, e, h0, h1, t⟩ := h i hi
  exact ⟨bl, off, e, h0, h1, by rw [World.cell?_setCell_other (h := fun e => h1 (by rw [e] at hp; exact hp))]; exact t⟩
theorem Off_nums {w : World} {B : Nat} {bad : Nat → Prop} {ao : Option Addr} {len : Nat} {z : Nat → Int} (h : Off w B bad ao len z) : Nums w ao len z := fun i hi => by
  obtain ⟨bl, off, e, _, _, t⟩ := h i hi
  exact ⟨bl, off, e, t⟩
theorem Off_new' {w : World} {B : Nat} {bad : Nat → Prop} {ao : Option Addr} {len : Nat} {z : Nat → Int} (h : Off w B bad ao len z) : New w B ao len z := fun i hi => by
  obtain ⟨bl, off, e, h0, _, t⟩ := h i hi
  exact ⟨bl, off, e, h0, t⟩
theorem undrew {W w' : World} (h : Below W.drew.heap.size W.drew w') : Below W.heap.size W w' := ⟨h.os, h.tape, h.output, h.size, h.block⟩

/-- the two cells of a made struct -/
def ZAt (w : World) (d : Nat) : Prop := (∃ v, w.cell? ⟨d, 0, none⟩ = some v) ∧ (∃ v, w.cell? ⟨d, 1, none⟩ = some v) ∧ w.frozen? ⟨d, 0, none⟩ = false ∧ w.frozen? ⟨d, 1, none⟩ = false
theorem ZAt_row {w : World} {d : Nat} (h : RowAt w d 2) : ZAt w d := ⟨(h 0 (by omega)).1, (h 1 (by omega)).1, (h 0 (by omega)).2, (h 1 (by omega)).2⟩
theorem two_new (w : World) (v0 v1 : Value) (t : TypeId) : RowAt (w.alloc (.cells #[v0, v1] t)) w.heap.size 2 := row_of_heap (M := #[v0, v1]) (heap_alloc_new w (.cells #[v0, v1] t))

theorem two_set {w : World} {d : Nat} {u0 u1 a b : Value} (h0 : w.cell? ⟨d, 0, none⟩ = some u0) (h1 : w.cell? ⟨d, 1, none⟩ = some u1) :
    ((w.setCell ⟨d, 0, none⟩ a).setCell ⟨d, 1, none⟩ b).cell? ⟨d, 0, none⟩ = some a ∧ ((w.setCell ⟨d, 0, none⟩ a).setCell ⟨d, 1, none⟩ b).cell? ⟨d, 1, none⟩ = some b := by
  have ne : ∀ i j : Nat, i ≠ j → (⟨d, i, none⟩ : Addr) ≠ ⟨d, j, none⟩ := fun i j h e => h (by injection e)
  refine ⟨?_, World.cell?_setCell_same _ _ _ (u := u1) ?_⟩
  · rw [World.cell?_setCell_other (h := ne 1 0 (by omega))]
    exact World.cell?_setCell_same _ _ _ h0
  · rw [World.cell?_setCell_other (h := ne 0 1 (by omega))]
    exact h1

/-- lists of numbers lie in a row of one's own, in blocks from B on -/
def NRow (w : World) (B : Nat) (ao : Option Addr) (n : Nat) (ll : Nat → Nat) (an : Nat → Nat → Int) : Prop := ∀ i, i < n → ∃ bl off r, ao = some ⟨bl, off, none⟩ ∧ B ≤ bl ∧ w.cell? ⟨bl, off + i, none⟩ = some (.slice r (ll i) (ll i)) ∧ New w B r (ll i) (an i)

/-- so many of a row's lists are filled -/
def Fill (w : World) (B : Nat) (bad : Nat → Prop) (g k : Nat) (ll : Nat → Nat) (an : Nat → Nat → Int) : Prop := ∀ i, i < k → ∃ q, w.cell? ⟨g, i, none⟩ = some (.slice q (ll i) (ll i)) ∧ Off w B bad q (ll i) (an i)

theorem Fill_below {w w' : World} {B : Nat} {bad : Nat → Prop} {g k : Nat} {ll : Nat → Nat} {an : Nat → Nat → Int} (hb : Below w.heap.size w w') (h : Fill w B bad g k ll an) : Fill w' B bad g k ll an := fun i hi => by
  obtain ⟨q, t, o⟩ := h i hi
  exact ⟨q, (hb.cell (World.block_lt_of_cell? w _ t)).trans t, Off_below hb o⟩

theorem Fill_next {w : World} {B : Nat} {bad : Nat → Prop} {g k : Nat} {ll : Nat → Nat} {an : Nat → Nat → Int} (hg : bad g) {u : Value} (hu : w.cell? ⟨g, k, none⟩ = some u) (h : Fill w B bad g k ll an) {q : Option Addr} (o : Off w B bad q (ll k) (an k)) :
    Fill (w.setCell ⟨g, k, none⟩ (.slice q (ll k) (ll k))) B bad g (k + 1) ll an := fun i hi => by
  rcases Nat.lt_or_ge i k with hk | hk
  · obtain ⟨q', t, o'⟩ := h i hk
    exact ⟨q', by rw [World.cell?_setCell_other (h := fun e => by injection e with _ e2; omega)]; exact t, Off_set o' hg _⟩
  · obtain rfl : i = k := by omega
    exact ⟨q, World.cell?_setCell_same _ _ _ hu, Off_set o hg _⟩

theorem Fill_row {w : World} {B : Nat} {bad : Nat → Prop} {g n : Nat} {ll : Nat → Nat} {an : Nat → Nat → Int} (hB : B ≤ g) (h : Fill w B bad g n ll an) : NRow w B (some ⟨g, 0, none⟩) n ll an := fun i hi => by
  obtain ⟨q, t, o⟩ := h i hi
  exact ⟨g, 0, q, rfl, hB, by rw [Nat.zero_add]; exact t, Off_new' o⟩

theorem New_apart {w w' : World} {B : Nat} {ao : Option Addr} {len : Nat} {z : Nat → Int} (h : New w B ao len z) (hc : ∀ b i, B ≤ b → w'.cell? ⟨b, i, none⟩ = w.cell? ⟨b, i, none⟩) : New w' B ao len z := fun i hi => by
  obtain ⟨bl, off, e, h0, t⟩ := h i hi
  exact ⟨bl, off, e, h0, (hc _ _ h0).trans t⟩
theorem NRow_apart {w w' : World} {B : Nat} {ao : Option Addr} {n : Nat} {ll : Nat → Nat} {an : Nat → Nat → Int} (h : NRow w B ao n ll an) (hc : ∀ b i, B ≤ b → w'.cell? ⟨b, i, none⟩ = w.cell? ⟨b, i, none⟩) : NRow w' B ao n ll an := fun i hi => by
  obtain ⟨bl, off, r, e, h0, t, o⟩ := h i hi
  exact ⟨bl, off, r, e, h0, (hc _ _ h0).trans t, New_apart o hc⟩
theorem NRow_mono {w : World} {B B' : Nat} (hB : B' ≤ B) {ao : Option Addr} {n : Nat} {ll : Nat → Nat} {an : Nat → Nat → Int} (h : NRow w B ao n ll an) : NRow w B' ao n ll an := fun i hi => by
  obtain ⟨bl, off, r, e, h0, t, o⟩ := h i hi
  exact ⟨bl, off, r, e, Nat.le_trans hB h0, t, New_mono hB o⟩
def bad2 (g d : Nat) : Nat → Prop := fun b => b = g ∨ b = d

/-- what stands behind the making of a copy's own cells, in whatever order they were made -/
def Pack (w0 wx : World) (s3 : Value) (al vl : Nat) (vs : Nat → Int) : Prop := ∃ g d r, s3 = .pointer (some ⟨d, 0, none⟩) ∧ g ≠ d ∧ (w0.heap.size ≤ g ∧ w0.heap.size ≤ d) ∧ Below w0.heap.size w0 wx ∧ RowAt wx g al ∧ (wx.cell? ⟨d, 0, none⟩ = some (.slice r vl vl) ∧ wx.cell? ⟨d, 1, none⟩ = some (.slice (some ⟨g, 0, none⟩) al al)) ∧ Off wx w0.heap.size (bad2 g d) r vl vs

theorem two_cells (w : World) (a b : Value) (t : TypeId) : (w.alloc (.cells #[a, b] t)).cell? ⟨w.heap.size, 0, none⟩ = some a ∧ (w.alloc (.cells #[a, b] t)).cell? ⟨w.heap.size, 1, none⟩ = some b := ⟨by simp, by simp⟩

section
variable {w0 w5 : World} {M : Array Value} {t t' : TypeId} {al vl B : Nat} {vs : Nat → Int} {r : Option Addr}

theorem packA (H5 : Below w0.heap.size w0 w5) (HM : M.size = al) (N5 : New w5 B r vl vs) (hB : w0.heap.size ≤ B) :
    Pack w0 ((w5.alloc (.cells M t)).alloc (.cells #[.slice r vl vl, .slice (some ⟨w5.heap.size, 0, none⟩) al al] t')) (.pointer (some ⟨w5.heap.size + 1, 0, none⟩)) al vl vs := by
  have hs := H5.size
  refine ⟨w5.heap.size, w5.heap.size + 1, r, rfl, by omega, ⟨hs, by omega⟩, (H5.alloc hs _).alloc (by simp; omega) _, by rw [← HM]; exact RowAt_alloc (RowAt_new w5 M _) _, by simp, Off_alloc (Off_alloc (Off_new hB (fun b _ h2 h3 => by rcases h3 with h3 | h3 <;> omega) N5) _) _⟩

theorem packB (H5 : Below w0.heap.size w0 w5) (HM : M.size = al) (N5 : New w5 B r vl vs) (hB : w0.heap.size ≤ B) :
    Pack w0 ((w5.alloc (.cells #[.slice r vl vl, .slice (some ⟨w5.heap.size + 1, 0, none⟩) al al] t')).alloc (.cells M t)) (.pointer (some ⟨w5.heap.size, 0, none⟩)) al vl vs := by
  have hs := H5.size
  have h2 := two_cells w5 (.slice r vl vl) (.slice (some ⟨w5.heap.size + 1, 0, none⟩) al al) t'
  refine ⟨w5.heap.size + 1, w5.heap.size, r, rfl, by omega, ⟨by omega, hs⟩, (H5.alloc hs _).alloc (by simp; omega) _, by rw [← HM]; simpa using RowAt_new (w5.alloc (.cells #[.slice r vl vl, .slice (some ⟨w5.heap.size + 1, 0, none⟩) M.size M.size] t')) M t, ⟨(World.cell?_alloc_past _ _ _ (World.block_lt_of_cell? _ _ h2.1)).trans h2.1, (World.cell?_alloc_past _ _ _ (World.block_lt_of_cell? _ _ h2.2)).trans h2.2⟩, Off_alloc (Off_alloc (Off_new hB (fun b _ h2 h3 => by rcases h3 with h3 | h3 <;> omega) N5) _) _⟩

theorem packC (H5 : Below w0.heap.size w0 w5) (X5 : Below (w0.alloc (.cells M t)).heap.size (w0.alloc (.cells M t)) w5) (HM : M.size = al) (N5 : New w5 B r vl vs) (hB : w0.heap.size + 1 ≤ B) :
    Pack w0 (w5.alloc (.cells #[.slice r vl vl, .slice (some ⟨w0.heap.size, 0, none⟩) al al] t')) (.pointer (some ⟨w5.heap.size, 0, none⟩)) al vl vs := by
  have hs := H5.size
  have hx := X5.size
  simp at hx
  refine ⟨w0.heap.size, w5.heap.size, r, rfl, by omega, ⟨Nat.le_refl _, hs⟩, H5.alloc hs _, by rw [← HM]; exact RowAt_alloc (RowAt_below X5 (RowAt_new w0 M _)) _, two_cells w5 _ _ _, Off_alloc (Off_new (by omega) (fun b _ h2 h3 => by rcases h3 with h3 | h3 <;> omega) N5) _⟩

theorem packD {z0 z1 : Value} (H5 : Below w0.heap.size w0 w5) (X5 : Below ((w0.alloc (.cells M t)).alloc (.cells #[z0, z1] t')).heap.size ((w0.alloc (.cells M t)).alloc (.cells #[z0, z1] t')) w5) (HM : M.size = al) (N5 : New w5 B r vl vs) (hB : w0.heap.size + 2 ≤ B) :
    Pack w0 ((w5.setCell ⟨w0.heap.size + 1, 0, none⟩ (.slice r vl vl)).setCell ⟨w0.heap.size + 1, 1, none⟩ (.slice (some ⟨w0.heap.size, 0, none⟩) al al)) (.pointer (some ⟨w0.heap.size + 1, 0, none⟩)) al vl vs := by
  obtain ⟨⟨_, d0⟩, ⟨_, d1⟩, _, _⟩ : ZAt w5 (w0.heap.size + 1) := by simpa using ZAt_row (RowAt_below X5 (two_new (w0.alloc (.cells M t)) _ _ _))
  refine ⟨w0.heap.size, w0.heap.size + 1, r, rfl, by omega, ⟨Nat.le_refl _, by omega⟩, (H5.setCell (p := ⟨w0.heap.size + 1, 0, none⟩) (by show w0.heap.size ≤ w0.heap.size + 1; omega) _).setCell (p := ⟨w0.heap.size + 1, 1, none⟩) (by show w0.heap.size ≤ w0.heap.size + 1; omega) _, by rw [← HM]; exact RowAt_set (RowAt_set (RowAt_below X5 (RowAt_alloc (RowAt_new w0 M _) _)) _ _) _ _, two_set d0 d1, Off_set (Off_set (Off_new (by omega) (fun b _ h2 h3 => by rcases h3 with h3 | h3 <;> omega) N5) (.inr rfl) _) (.inr rfl) _⟩

theorem packE {z0 z1 : Value} (H5 : Below w0.heap.size w0 w5) (X5 : Below (w0.alloc (.cells #[z0, z1] t')).heap.size (w0.alloc (.cells #[z0, z1] t')) w5) (HM : M.size = al) (N5 : New w5 B r vl vs) (hB : w0.heap.size + 1 ≤ B) :
    Pack w0 (((w5.alloc (.cells M t)).setCell ⟨w0.heap.size, 0, none⟩ (.slice r vl vl)).setCell ⟨w0.heap.size, 1, none⟩ (.slice (some ⟨w5.heap.size, 0, none⟩) al al)) (.pointer (some ⟨w0.heap.size, 0, none⟩)) al vl vs := by
  have hs := H5.size
  have hx := X5.size
  simp at hx
  obtain ⟨⟨_, d0⟩, ⟨_, d1⟩, _, _⟩ : ZAt (w5.alloc (.cells M t)) w0.heap.size := ZAt_row (RowAt_alloc (RowAt_below X5 (two_new w0 _ _ _)) _)
  refine ⟨w5.heap.size, w0.heap.size, r, rfl, by omega, ⟨hs, Nat.le_refl _⟩, ((H5.alloc hs _).setCell (p := ⟨w0.heap.size, 0, none⟩) (Nat.le_refl _) _).setCell (p := ⟨w0.heap.size, 1, none⟩) (Nat.le_refl _) _, by rw [← HM]; exact RowAt_set (RowAt_set (RowAt_new w5 M _) _ _) _ _, two_set d0 d1, Off_set (Off_set (Off_alloc (Off_new (by omega) (fun b h1 h2 h3 => by rcases h3 with h3 | h3 <;> omega) N5) _) (.inr rfl) _) (.inr rfl) _⟩

theorem packF {z0 z1 : Value} (H5 : Below w0.heap.size w0 w5) (X5 : Below ((w0.alloc (.cells #[z0, z1] t')).alloc (.cells M t)).heap.size ((w0.alloc (.cells #[z0, z1] t')).alloc (.cells M t)) w5) (HM : M.size = al) (N5 : New w5 B r vl vs) (hB : w0.heap.size + 2 ≤ B) :
    Pack w0 ((w5.setCell ⟨w0.heap.size, 0, none⟩ (.slice r vl vl)).setCell ⟨w0.heap.size, 1, none⟩ (.slice (some ⟨w0.heap.size + 1, 0, none⟩) al al)) (.pointer (some ⟨w0.heap.size, 0, none⟩)) al vl vs := by
  obtain ⟨⟨_, d0⟩, ⟨_, d1⟩, _, _⟩ : ZAt w5 w0.heap.size := ZAt_row (RowAt_below X5 (RowAt_alloc (two_new w0 _ _ _) _))
  refine ⟨w0.heap.size + 1, w0.heap.size, r, rfl, by omega, ⟨by omega, Nat.le_refl _⟩, (H5.setCell (p := ⟨w0.heap.size, 0, none⟩) (Nat.le_refl _) _).setCell (p := ⟨w0.heap.size, 1, none⟩) (Nat.le_refl _) _, RowAt_set (RowAt_set (RowAt_below X5 (by rw [← HM]; simpa using RowAt_new (w0.alloc (.cells #[z0, z1] t')) M t)) _ _) _ _, two_set d0 d1, Off_set (Off_set (Off_new (by omega) (fun b h1 h2 h3 => by rcases h3 with h3 | h3 <;> omega) N5) (.inr rfl) _) (.inr rfl) _⟩
end
end Go.Proofs.Ytalnfnkpemojhaa.ERows
