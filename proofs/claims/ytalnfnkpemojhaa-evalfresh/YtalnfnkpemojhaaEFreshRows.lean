/-
  WHAT STANDS BEHIND THE MAKING OF A UNIT's FRESH CELLS, in whatever order they are made.
  Conditions: each lemma's own.
-/
import Derived.Test.YtalnfnkpemojhaaERows
namespace Go.Proofs.Ytalnfnkpemojhaa.EFreshRows
open Go.RowKit ECells ECopied ERows

/-- a list of so many zeros is made -/
theorem make_ints (n : Nat) (h : n * 8 ≤ 140737488355328) : ∃ V : Array Value, V.size = n ∧ (∀ i, i < n → V[i]? = some (.int .i64 0)) ∧ ∀ W : World, (Instr.makeSlice 54 (.int .i64 n) (.int .i64 n)).run Try.prog W = .ok (.slice (some ⟨W.heap.size, 0, none⟩) n n) (W.alloc (.cells V 3)) := by
  obtain ⟨i0, hi, hz0, hz1, hz2⟩ := info_parts infoInt
  refine ⟨madeCells (Value.int .i64 0).cells (n * 1), by simp [madeCells], fun i hi => by simp [madeCells, Value.cells, Nat.mod_one, hi], fun W => ?_⟩
  have := run_make (P := Try.prog) W 54 3 i0 (.int .i64 0) Try.underlying54 hi hz0 .i64 .i64 n n (by omega) (Int.le_refl _) (by rw [hz2]; omega) (by omega)
  rw [hz1] at this
  simpa using this

theorem new_zeros {w : World} {g n B : Nat} {t : TypeId} {V : Array Value} (hB : B ≤ g) (hV : ∀ i, i < n → V[i]? = some (.int .i64 0)) (h : w.heap[g]? = some (.cells V t)) : New w B (some ⟨g, 0, none⟩) n fun _ => 0 := fun i hi =>
  ⟨g, 0, rfl, hB, by simp [World.cell?, h, hV i hi]⟩

theorem pack_of {w0 wx : World} {g d v al vl : Nat} {M V : Array Value} {t1 t2 t3 : TypeId} (hx : Below w0.heap.size w0 wx) (hg : w0.heap.size ≤ g) (hd : w0.heap.size ≤ d) (hv : w0.heap.size ≤ v) (h1 : g ≠ d) (h2 : v ≠ g) (h3 : v ≠ d)
    (eg : wx.heap[g]? = some (.cells M t2)) (ed : wx.heap[d]? = some (.cells #[.slice (some ⟨v, 0, none⟩) vl vl, .slice (some ⟨g, 0, none⟩) al al] t3)) (ev : wx.heap[v]? = some (.cells V t1)) (HM : M.size = al) (_HV : V.size = vl) (hV : ∀ i, i < vl → V[i]? = some (.int .i64 0)) :
    Pack w0 wx (.pointer (some ⟨d, 0, none⟩)) al vl fun _ => 0 := by
  refine ⟨g, d, some ⟨v, 0, none⟩, rfl, h1, ⟨hg, hd⟩, hx, by rw [← HM]; exact row_of_heap eg, ⟨by simp [World.cell?, ed], by simp [World.cell?, ed]⟩, fun i hi => ⟨v, 0, rfl, hv, fun h => ?_, by simp [World.cell?, ev, hV i hi]⟩⟩
  rcases h with h | h
  · exact h2 h
  · exact h3 h

theorem heap3 (w : World) (a b c : Obj) : ((w.alloc a).alloc b |>.alloc c).drew.heap[w.heap.size]? = some a ∧ ((w.alloc a).alloc b |>.alloc c).drew.heap[w.heap.size + 1]? = some b ∧ ((w.alloc a).alloc b |>.alloc c).drew.heap[w.heap.size + 1 + 1]? = some c := by
  have z1 : (w.alloc a).heap.size = w.heap.size + 1 := by simp
  have z2 : ((w.alloc a).alloc b).heap.size = w.heap.size + 1 + 1 := by simp
  refine ⟨?_, ?_, ?_⟩
  · exact (Below.heap_alloc _ c _ (by omega)).trans ((Below.heap_alloc _ b _ (by omega)).trans (heap_alloc_new w a))
  · exact (Below.heap_alloc _ c _ (by omega)).trans (by rw [← z1]; exact heap_alloc_new _ b)
  · show ((w.alloc a).alloc b |>.alloc c).heap[w.heap.size + 1 + 1]? = some c
    rw [← z2]
    exact heap_alloc_new _ c

theorem below3 (w : World) (a b c : Obj) : Below w.heap.size w ((w.alloc a).alloc b |>.alloc c) := (((Below.refl _ _).alloc (Nat.le_refl _) _).alloc (by simp) _).alloc (by simp; omega) _

section
variable {w0 : World} {M V : Array Value} {t1 t2 t3 : TypeId} {al vl : Nat}
theorem pkVMD (HM : M.size = al) (HV : V.size = vl) (hV : ∀ i, i < vl → V[i]? = some (.int .i64 0)) :
    Pack w0 (((w0.alloc (.cells V t1)).alloc (.cells M t2)).alloc (.cells #[.slice (some ⟨w0.heap.size, 0, none⟩) vl vl, .slice (some ⟨w0.heap.size + 1, 0, none⟩) al al] t3)).drew (.pointer (some ⟨w0.heap.size + 1 + 1, 0, none⟩)) al vl fun _ => 0 := by
  obtain ⟨e0, e1, e2⟩ := heap3 w0 (.cells V t1) (.cells M t2) (.cells #[.slice (some ⟨w0.heap.size, 0, none⟩) vl vl, .slice (some ⟨w0.heap.size + 1, 0, none⟩) al al] t3)
  exact pack_of (g := w0.heap.size + 1) (v := w0.heap.size) (below3 w0 (.cells V t1) (.cells M t2) (.cells #[.slice (some ⟨w0.heap.size, 0, none⟩) vl vl, .slice (some ⟨w0.heap.size + 1, 0, none⟩) al al] t3)).drew (by omega) (by omega) (by omega) (by omega) (by omega) (by omega) e1 e2 e0 HM HV hV

theorem pkVDM (HM : M.size = al) (HV : V.size = vl) (hV : ∀ i, i < vl → V[i]? = some (.int .i64 0)) :
    Pack w0 (((w0.alloc (.cells V t1)).alloc (.cells #[.slice (some ⟨w0.heap.size, 0, none⟩) vl vl, .slice (some ⟨w0.heap.size + 1 + 1, 0, none⟩) al al] t3)).alloc (.cells M t2)).drew (.pointer (some ⟨w0.heap.size + 1, 0, none⟩)) al vl fun _ => 0 := by
  obtain ⟨e0, e1, e2⟩ := heap3 w0 (.cells V t1) (.cells #[.slice (some ⟨w0.heap.size, 0, none⟩) vl vl, .slice (some ⟨w0.heap.size + 1 + 1, 0, none⟩) al al] t3) (.cells M t2)
  exact pack_of (g := w0.heap.size + 1 + 1) (v := w0.heap.size) (below3 w0 (.cells V t1) (.cells #[.slice (some ⟨w0.heap.size, 0, none⟩) vl vl, .slice (some ⟨w0.heap.size + 1 + 1, 0, none⟩) al al] t3) (.cells M t2)).drew (by omega) (by omega) (by omega) (by omega) (by omega) (by omega) e2 e1 e0 HM HV hV

theorem pkMVD (HM : M.size = al) (HV : V.size = vl) (hV : ∀ i, i < vl → V[i]? = some (.int .i64 0)) :
    Pack w0 (((w0.alloc (.cells M t2)).alloc (.cells V t1)).alloc (.cells #[.slice (some ⟨w0.heap.size + 1, 0, none⟩) vl vl, .slice (some ⟨w0.heap.size, 0, none⟩) al al] t3)).drew (.pointer (some ⟨w0.heap.size + 1 + 1, 0, none⟩)) al vl fun _ => 0 := by
  obtain ⟨e0, e1, e2⟩ := heap3 w0 (.cells M t2) (.cells V t1) (.cells #[.slice (some ⟨w0.heap.size + 1, 0, none⟩) vl vl, .slice (some ⟨w0.heap.size, 0, none⟩) al al] t3)
  exact pack_of (g := w0.heap.size) (v := w0.heap.size + 1) (below3 w0 (.cells M t2) (.cells V t1) (.cells #[.slice (some ⟨w0.heap.size + 1, 0, none⟩) vl vl, .slice (some ⟨w0.heap.size, 0, none⟩) al al] t3)).drew (by omega) (by omega) (by omega) (by omega) (by omega) (by omega) e0 e2 e1 HM HV hV

theorem pkMDV (HM : M.size = al) (HV : V.size = vl) (hV : ∀ i, i < vl → V[i]? = some (.int .i64 0)) :
    Pack w0 (((w0.alloc (.cells M t2)).alloc (.cells #[.slice (some ⟨w0.heap.size + 1 + 1, 0, none⟩) vl vl, .slice (some ⟨w0.heap.size, 0, none⟩) al al] t3)).alloc (.cells V t1)).drew (.pointer (some ⟨w0.heap.size + 1, 0, none⟩)) al vl fun _ => 0 := by
  obtain ⟨e0, e1, e2⟩ := heap3 w0 (.cells M t2) (.cells #[.slice (some ⟨w0.heap.size + 1 + 1, 0, none⟩) vl vl, .slice (some ⟨w0.heap.size, 0, none⟩) al al] t3) (.cells V t1)
  exact pack_of (g := w0.heap.size) (v := w0.heap.size + 1 + 1) (below3 w0 (.cells M t2) (.cells #[.slice (some ⟨w0.heap.size + 1 + 1, 0, none⟩) vl vl, .slice (some ⟨w0.heap.size, 0, none⟩) al al] t3) (.cells V t1)).drew (by omega) (by omega) (by omega) (by omega) (by omega) (by omega) e0 e1 e2 HM HV hV

theorem pkDVM (HM : M.size = al) (HV : V.size = vl) (hV : ∀ i, i < vl → V[i]? = some (.int .i64 0)) :
    Pack w0 (((w0.alloc (.cells #[.slice (some ⟨w0.heap.size + 1, 0, none⟩) vl vl, .slice (some ⟨w0.heap.size + 1 + 1, 0, none⟩) al al] t3)).alloc (.cells V t1)).alloc (.cells M t2)).drew (.pointer (some ⟨w0.heap.size, 0, none⟩)) al vl fun _ => 0 := by
  obtain ⟨e0, e1, e2⟩ := heap3 w0 (.cells #[.slice (some ⟨w0.heap.size + 1, 0, none⟩) vl vl, .slice (some ⟨w0.heap.size + 1 + 1, 0, none⟩) al al] t3) (.cells V t1) (.cells M t2)
  exact pack_of (g := w0.heap.size + 1 + 1) (v := w0.heap.size + 1) (below3 w0 (.cells #[.slice (some ⟨w0.heap.size + 1, 0, none⟩) vl vl, .slice (some ⟨w0.heap.size + 1 + 1, 0, none⟩) al al] t3) (.cells V t1) (.cells M t2)).drew (by omega) (by omega) (by omega) (by omega) (by omega) (by omega) e2 e0 e1 HM HV hV

theorem pkDMV (HM : M.size = al) (HV : V.size = vl) (hV : ∀ i, i < vl → V[i]? = some (.int .i64 0)) :
    Pack w0 (((w0.alloc (.cells #[.slice (some ⟨w0.heap.size + 1 + 1, 0, none⟩) vl vl, .slice (some ⟨w0.heap.size + 1, 0, none⟩) al al] t3)).alloc (.cells M t2)).alloc (.cells V t1)).drew (.pointer (some ⟨w0.heap.size, 0, none⟩)) al vl fun _ => 0 := by
  obtain ⟨e0, e1, e2⟩ := heap3 w0 (.cells #[.slice (some ⟨w0.heap.size + 1 + 1, 0, none⟩) vl vl, .slice (some ⟨w0.heap.size + 1, 0, none⟩) al al] t3) (.cells M t2) (.cells V t1)
  exact pack_of (g := w0.heap.size + 1) (v := w0.heap.size + 1 + 1) (below3 w0 (.cells #[.slice (some ⟨w0.heap.size + 1 + 1, 0, none⟩) vl vl, .slice (some ⟨w0.heap.size + 1, 0, none⟩) al al] t3) (.cells M t2) (.cells V t1)).drew (by omega) (by omega) (by omega) (by omega) (by omega) (by omega) e1 e0 e2 HM HV hV

end
end Go.Proofs.Ytalnfnkpemojhaa.EFreshRows
