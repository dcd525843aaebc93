/-
  WHAT token.longestSign GIVES: of the signs that a text begins with the longest one; no text, if there is none.
  Conditions: none.
-/
import Derived.Test.YtmmcpjmgindpkadSigns
namespace Go.Proofs.Ytmmcpjmgindpkad.Longest
open Go.RowKit Go.Shelf Bytes Signs

attribute [local go_sem] Oper.semAt_some

/-- the longest of those that have come and that the text begins with -/
def best (l : List UInt8) (pre : List ByteArray) : ByteArray := pre.foldl (fun b x => if (decide (b.size < x.size) && Lib.hasPrefix l x.data.toList) = true then x else b) ⟨#[]⟩

theorem best_snoc (l : List UInt8) (pre : List ByteArray) (x : ByteArray) : best l (pre ++ [x]) = if (decide ((best l pre).size < x.size) && Lib.hasPrefix l x.data.toList) = true then x else best l pre := by
  unfold best
  rw [List.foldl_append]
  rfl

theorem cell_at {w : World} {b : Nat} {v : Value} {t : TypeId} (h : w.heap[b]? = some (.cells #[v] t)) : w.cell? ⟨b, 0, none⟩ = some v ∧ w.frozen? ⟨b, 0, none⟩ = false :=
  ⟨cell_of_heap h rfl, frozen_of_row w b 0 _ t h⟩

set_option maxRecDepth 100000 in
set_option maxHeartbeats 4000000 in
theorem longest (s : ByteArray) (w : World) : Calls Try.prog 27 #[.string s] w fun e w' => e = .returned (.string (best s.data.toList (upto 20))) ∧ Below w.heap.size w w' := by
  refine (callsIn_wide (n := 3)).1 ?_
  refine callsIn_of_wp_marks Try.func27 rfl trivial ?_ rfl
  simp only [Try.ntmps27, List.size_toArray, List.length_cons, List.length_nil, Nat.reduceAdd, Nat.reduceSub, Array.replicate_succ, Array.replicate_zero, List.push_toArray, List.append_toArray, List.nil_append, List.cons_append]
  gi_wp2
  have n0 := heap_alloc_new w (.cells #[.string s] 9)
  have n1 := heap_alloc_new (w.alloc (.cells #[.string s] 9)) (.cells #[.string ⟨#[]⟩] 9)
  have hsz : (w.alloc (.cells #[.string s] 9)).heap.size = w.heap.size + 1 := World.size_alloc _ _
  rw [hsz] at n1
  have n0' := (Below.heap_alloc (w.alloc (.cells #[.string s] 9)) (.cells #[.string ⟨#[]⟩] 9) w.heap.size (by rw [hsz]; omega)).trans n0
  have hB0 : Below w.heap.size w ((w.alloc (.cells #[.string s] 9)).alloc (.cells #[.string ⟨#[]⟩] 9)) := ((Below.refl _ w).alloc (Nat.le_refl _) _).alloc (by simp) _
  refine wpIn_rangeFunc_ownF rfl (by decide) (gf := 33) (lb := #[]) rfl trivial (enters_of Try.func33 (by kernel_rfl) rfl)
    (signs_stops Fence.wide 2 trivial rfl (by decide) (Below w.heap.size) _) belowK_t (belowK_b (by simp; omega)) (Below.refl _ _) (fun _ => rfl)
    (fun pre W => ((W.cell? ⟨w.heap.size, 0, none⟩ = some (.string s) ∧ W.frozen? ⟨w.heap.size, 0, none⟩ = false) ∧ (W.cell? ⟨w.heap.size + 1, 0, none⟩ = some (.string (best s.data.toList pre)) ∧ W.frozen? ⟨w.heap.size + 1, 0, none⟩ = false)) ∧ Below w.heap.size w W)
    (fun _ _ _ => False)
    (OwnFrom.and (Own.from (fun s A B row hs hg hr => ⟨⟨cell_kept hs.1.1 hg hr, (frozen_kept hs.1.1 hg hr).trans hs.1.2⟩, cell_kept hs.2.1 hg hr, (frozen_kept hs.2.1 hg hr).trans hs.2.2⟩) _) (ownFrom_below (Nat.le_refl _) (by simp; omega)))
    (fun _ _ _ _ _ hs _ _ => hs)
    ⟨⟨cell_at n0', cell_at n1⟩, hB0⟩
    (fun x => { tmps := #[.string s, .pointer (some ⟨w.heap.size, 0, none⟩), .string ⟨#[]⟩, .pointer (some ⟨w.heap.size + 1, 0, none⟩), .string x, .string x, undef, undef, undef, undef, undef, undef, undef, undef, undef, undef, undef, undef], defers := [] }) ?assign ?body ?done ?stop
  case assign =>
    intro l x W K hK
    gi_wp2
    exact hK
  case body =>
    rintro l pre x W ⟨⟨⟨hc, hf⟩, hc1, hf1⟩, hB⟩ _
    obtain ⟨b, eb⟩ : ∃ b, best s.data.toList pre = b := ⟨_, rfl⟩
    have HE := best_snoc s.data.toList pre x
    rw [eb] at HE hc1
    have HS : Hid _ := HE
    clear HE eb
    by_cases hlt : b.size < x.size
    · have hltI : (b.size : Int) < x.size := by omega
      cases hp : Lib.hasPrefix s.data.toList x.data.toList
      · gi_wp2_with (refine ⟨trivial, ?_⟩; gi_at_call 34; refine (CallsIn.inRound l (callsIn_wide.2 (Try.strings_HasPrefix _ _ _))).mono ?_; rintro e w' ⟨rfl, rfl⟩)
        have e1 : best s.data.toList (pre ++ [x]) = b := by rw [HS.out, hp, Bool.and_false]; rfl
        exact ⟨KeepsOthers.refl _, Below.refl _ _, ⟨⟨hc, hf⟩, by rw [e1]; exact hc1, hf1⟩, hB⟩
      · gi_wp2_with (refine ⟨trivial, ?_⟩; gi_at_call 34; refine (CallsIn.inRound l (callsIn_wide.2 (Try.strings_HasPrefix _ _ _))).mono ?_; rintro e w' ⟨rfl, rfl⟩)
        have e1 : best s.data.toList (pre ++ [x]) = x := by rw [HS.out, hp, decide_eq_true hlt]; rfl
        exact ⟨KeepsOthers.setCell _ _ _, (Below.refl w.heap.size _).setCell (p := ⟨w.heap.size + 1, 0, none⟩) (by simp) _, ⟨⟨by rw [World.cell?_setCell_other _ _ _ _ (by simp)]; exact hc, by rw [World.frozen?_setCell]; exact hf⟩, by rw [e1]; exact World.cell?_setCell_same' _ _ _ (by rw [hc1]; rfl), by rw [World.frozen?_setCell]; exact hf1⟩, hB.setCell (p := ⟨w.heap.size + 1, 0, none⟩) (by simp) _⟩
    · have hltI : (x.size : Int) ≤ b.size := by omega
      gi_wp2
      refine ⟨trivial, ?_⟩
      gi_wp2
      have e1 : best s.data.toList (pre ++ [x]) = b := by rw [HS.out, decide_eq_false hlt, Bool.false_and]; rfl
      exact ⟨KeepsOthers.refl _, Below.refl _ _, ⟨⟨hc, hf⟩, by rw [e1]; exact hc1, hf1⟩, hB⟩
  case done =>
    rintro D ys W hD rfl ⟨⟨_, hc, _⟩, hB⟩ hK
    gi_wp2
    refine ⟨by simp, .inl ⟨_, _, rfl, run_takeDeferred hK, ?_⟩⟩
    exact ⟨_, results_tmp rfl _ _ _, rfl, hB.trans (belowK_b (w := w) (Nat.le_refl _) W D _ _ (by simp at hD; omega) hK rfl rfl)⟩
  case stop =>
    rintro D c pre W _ _ h _
    exact h.elim
end Go.Proofs.Ytmmcpjmgindpkad.Longest
