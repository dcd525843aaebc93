/-
  WHAT sameTokens GIVES: two lists of the call's own, of the same tokens, are the same; the call turns nothing but the count of draws.
  Conditions: each contract's own hypotheses.
-/
import Derived.Test.YtmmcpjmgindpkadCut
import Derived.Deep.QuietTactic
import Derived.BigQuiet
namespace Go.Proofs.Ytmmcpjmgindpkad.SameTok
open Go.RowKit Go.Proofs.Ytmmcpjmgindpkad.Cut

def kAt (l : List (Int × List UInt8)) (i : Nat) : Int := (l.getD i (0, [])).1
def tAt (l : List (Int × List UInt8)) (i : Nat) : ByteArray := ⟨(l.getD i (0, [])).2.toArray⟩

theorem flat_at (l : List (Int × List UInt8)) : ∀ i, i < l.length → (flat l)[i * 2]? = some (.int .i64 (kAt l i)) ∧ (flat l)[i * 2 + 1]? = some (.string (tAt l i)) := by
  induction l with
  | nil => intro k hk; simp at hk
  | cons t r ih =>
    intro k hk
    cases k with
    | zero => exact ⟨rfl, rfl⟩
    | succ k =>
      obtain ⟨h0, h1⟩ := ih k (by simpa using hk)
      have e : ∀ j, (flat (t :: r))[(k + 1) * 2 + j]? = (flat r)[k * 2 + j]? := fun j => by
        rw [show (k + 1) * 2 + j = k * 2 + j + 1 + 1 by omega]
        rfl
      exact ⟨(e 0).trans h0, (e 1).trans h1⟩

theorem flat_length (l : List (Int × List UInt8)) : (flat l).length = l.length * 2 := by
  induction l with
  | nil => rfl
  | cons t r ih =>
    have e : (flat (t :: r)).length = (flat r).length + 1 + 1 := rfl
    rw [e, ih, List.length_cons]
    omega

theorem cells_at {w : World} {B : Nat} {g cap : Nat} {l : List (Int × List UInt8)} (h : w.ownsRow B 32 2 (.slice (some ⟨g, 0, none⟩) l.length cap) l.length (flat l)) : ∀ i, i < l.length → w.cell? ⟨g, i * 2, none⟩ = some (.int .i64 (kAt l i)) ∧ w.cell? ⟨g, i * 2 + 1, none⟩ = some (.string (tAt l i)) := fun i hi =>
  ⟨(h.cellAt _ (by omega)).trans (flat_at l i hi).1, (h.cellAt _ (by omega)).trans (flat_at l i hi).2⟩

theorem form_of {w : World} {B : Nat} {v : Value} {l : List (Int × List UInt8)} (h : w.ownsRow B 32 2 v l.length (flat l)) : (l.length = 0 ∧ ∃ ao cap, v = .slice ao 0 cap) ∨ (0 < l.length ∧ ∃ g cap, v = .slice (some ⟨g, 0, none⟩) l.length cap) := by
  rcases h.2 with ⟨h1, h0⟩ | ⟨g, cap, cur, hv, _⟩
  · exact .inl ⟨h0, none, 0, h1⟩
  · rcases Nat.eq_zero_or_pos l.length with h0 | h0
    · exact .inl ⟨h0, some ⟨g, 0, none⟩, cap, by rw [hv, h0]⟩
    · exact .inr ⟨h0, g, cap, hv⟩

set_option maxRecDepth 100000 in
set_option maxHeartbeats 1600000 in
theorem sameTokens (B : Nat) (l : List (Int × List UInt8)) (hn : l.length ≤ 3000) (v v' : Value) (w : World) (h : w.ownsRow B 32 2 v l.length (flat l)) (h' : w.ownsRow B 32 2 v' l.length (flat l)) :
    Calls Try.prog 10 #[v, v'] w fun e w' => e = .returned (.bool true) ∧ Below w.heap.size w w' := by
  rcases form_of h with ⟨h0, ao, cap, rfl⟩ | ⟨h0, g, cap, rfl⟩
  · rcases form_of h' with ⟨_, ao', cap', rfl⟩ | ⟨h1, _⟩
    · clear h h'
      go_enter Try.func10, Try.ntmps10
      go_wp2
      refine wp_loop_rounds 1 ?_
      rw [rounds_succ]
      go_wp2
      go_ret
      exact ⟨rfl, Below.refl _ _⟩
    · omega
  · rcases form_of h' with ⟨h1, _⟩ | ⟨_, g', cap', rfl⟩
    · omega
    · have q := cells_at h
      have q' := cells_at h'
      obtain ⟨n, hnn⟩ : ∃ n, n = l.length := ⟨_, rfl⟩
      rw [← hnn] at q q' hn ⊢
      clear h h' h0 hnn
      have hn2 : (n : Int) ≤ 3000 := by omega
      go_enter Try.func10, Try.ntmps10
      go_wp2
      go_loopw [5] (fun i wr => ∃ k : Nat, k ≤ n ∧ i = .int .i64 k ∧ Below w.heap.size w wr) (fun i _ => n - (intOf i).toNat)
      case atStart => exact ⟨0, Nat.zero_le _, rfl, Below.refl _ _⟩
      case round =>
        obtain ⟨k, hk, rfl, hbel⟩ := hrel
        by_cases hkn : k < n
        · have hkI : (k : Int) < n := by omega
          obtain ⟨t0, t1⟩ := q k hkn
          obtain ⟨r0, r1⟩ := q' k hkn
          have hg : g < w.heap.size := World.block_lt_of_cell? w _ t0
          have hg' : g' < w.heap.size := World.block_lt_of_cell? w _ r0
          have s0 := (hbel.cell (p := ⟨g, k * 2, none⟩) hg).trans t0
          have s1 := (hbel.cell (p := ⟨g, k * 2 + 1, none⟩) hg).trans t1
          have p0 := (hbel.cell (p := ⟨g', k * 2, none⟩) hg').trans r0
          have p1 := (hbel.cell (p := ⟨g', k * 2 + 1, none⟩) hg').trans r1
          obtain ⟨x, ex⟩ : ∃ x, kAt l k = x := ⟨_, rfl⟩
          obtain ⟨y, ey⟩ : ∃ y, tAt l k = y := ⟨_, rfl⟩
          rw [ex] at s0 p0
          rw [ey] at s1 p1
          clear t0 t1 r0 r1 q q' ex ey
          go_wp2
          go_quiet (fail)
          go_wp2
          go_roundw
          case rel => exact ⟨k + 1, by omega, by go_num, ⟨hbel.os, hbel.tape, hbel.output, hbel.size, hbel.block⟩⟩
          case measure => simp [intOf]; omega
        · obtain rfl : k = n := by omega
          clear q q'
          go_wp2
          go_ret
          exact ⟨rfl, hbel⟩
end Go.Proofs.Ytmmcpjmgindpkad.SameTok
