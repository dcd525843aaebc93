/-
  WHAT slices.Equal GIVES OF TWO LISTS OF THE SAME TOKENS, and what is known of the texts that TokensCut joins.
  Conditions: each contract's own hypotheses.
-/
import Derived.Test.YtmmcpjmgindpkadSameTok
import Derived.Test.YtmmcpjmgindpkadAgain
namespace Go.Proofs.Ytmmcpjmgindpkad.EqualTok
open Go.RowKit Bytes Go.Proofs.Ytmmcpjmgindpkad.Cut SameTok Again

set_option maxRecDepth 100000 in
set_option maxHeartbeats 1600000 in
theorem equalTokens (B : Nat) (l : List (Int × List UInt8)) (hn : l.length ≤ 3000) (v v' : Value) (w : World) (h : w.ownsRow B 32 2 v l.length (flat l)) (h' : w.ownsRow B 32 2 v' l.length (flat l)) :
    Calls Try.prog 12 #[v, v'] w fun e w' => e = .returned (.bool true) ∧ Below w.heap.size w w' := by
  rcases form_of h with ⟨h0, ao, cap, rfl⟩ | ⟨h0, g, cap, rfl⟩
  · rcases form_of h' with ⟨_, ao', cap', rfl⟩ | ⟨h1, _⟩
    · clear h h'
      go_enter Try.func12, Try.ntmps12
      go_wp2
      refine wp_loop_rounds 1 ?_
      rw [rounds_succ]
      go_wp2
      go_ret
      exact ⟨rfl, Below.refl _ _⟩
    · omega
  · rcases form_of h' with ⟨h1, _⟩ | ⟨_, g', cap', rfl⟩
    · omega
    · have q := cells_at h
      have q' := cells_at h'
      obtain ⟨n, hnn⟩ : ∃ n, n = l.length := ⟨_, rfl⟩
      rw [← hnn] at q q' hn ⊢
      clear h h' h0 hnn
      have hn2 : (n : Int) ≤ 3000 := by omega
      go_enter Try.func12, Try.ntmps12
      go_wp2
      go_loopw [13] (fun i wr => ∃ k : Nat, k ≤ n ∧ i = .int .i64 k ∧ Below w.heap.size w wr) (fun i _ => n - (intOf i).toNat)
      case atStart => exact ⟨0, Nat.zero_le _, rfl, Below.refl _ _⟩
      case round =>
        obtain ⟨k, hk, rfl, hbel⟩ := hrel
        by_cases hkn : k < n
        · have hkI : (k : Int) < n := by omega
          obtain ⟨t0, t1⟩ := q k hkn
          obtain ⟨r0, r1⟩ := q' k hkn
          have hg : g < w.heap.size := World.block_lt_of_cell? w _ t0
          have hg' : g' < w.heap.size := World.block_lt_of_cell? w _ r0
          have s0 := (hbel.cell (p := ⟨g, k * 2, none⟩) hg).trans t0
          have s1 := (hbel.cell (p := ⟨g, k * 2 + 1, none⟩) hg).trans t1
          have p0 := (hbel.cell (p := ⟨g', k * 2, none⟩) hg').trans r0
          have p1 := (hbel.cell (p := ⟨g', k * 2 + 1, none⟩) hg').trans r1
          obtain ⟨x, ex⟩ : ∃ x, kAt l k = x := ⟨_, rfl⟩
          obtain ⟨y, ey⟩ : ∃ y, tAt l k = y := ⟨_, rfl⟩
          rw [ex] at s0 p0
          rw [ey] at s1 p1
          clear t0 t1 r0 r1 q q' ex ey
          go_wp2
          go_quiet (fail)
          go_wp2
          go_roundw
          case rel => exact ⟨k + 1, by omega, by go_num, ⟨hbel.os, hbel.tape, hbel.output, hbel.size, hbel.block⟩⟩
          case measure => simp [intOf]; omega
        · obtain rfl : k = n := by omega
          clear q q'
          go_wp2
          go_ret
          exact ⟨rfl, hbel⟩

/-- with an error there are no tokens -/
theorem cut_err (l : List UInt8) : ∀ f i acc, (cut l f i acc).2 ≠ 0 → (cut l f i acc).1 = [] := by
  intro f
  induction f with
  | zero => intro i acc h; exact absurd rfl h
  | succ f ih =>
    intro i acc h
    by_cases hlt : i < l.length
    · cases hg : gapB (at_ l i)
      · cases ht : TokenAt.tok l i with
        | none => rw [cut_bad hlt hg ht]
        | some t => rw [cut_tok hlt hg ht] at h ⊢; exact ih _ _ h
      · rw [cut_gap hlt hg] at h ⊢; exact ih _ _ h
    · rw [cut_end (by omega)] at h; exact absurd rfl h

/-- how many bytes tokens have -/
def bytes (l : List (Int × List UInt8)) : Nat := (l.map fun t => t.2.length).sum

theorem cut_bytes (l : List UInt8) : ∀ f i acc, bytes acc ≤ i → i ≤ l.length → bytes (cut l f i acc).1 ≤ l.length := by
  intro f
  induction f with
  | zero => intro i acc h hi; exact Nat.le_trans h hi
  | succ f ih =>
    intro i acc h hi
    by_cases hlt : i < l.length
    · cases hg : gapB (at_ l i)
      · cases ht : TokenAt.tok l i with
        | none => rw [cut_bad hlt hg ht]; exact Nat.zero_le _
        | some t =>
          have h2 := tok_len hlt ht
          rw [cut_tok hlt hg ht]
          exact ih _ _ (by simp only [bytes, List.map_append, List.sum_append, List.map_cons, List.map_nil, List.sum_cons, List.sum_nil] at h ⊢; omega) h2.2
      · rw [cut_gap hlt hg]
        exact ih _ _ (by omega) (by omega)
    · rw [cut_end (by omega)]
      exact Nat.le_trans h hi

theorem told_length : ∀ l : List (Int × List UInt8), (told l).length ≤ bytes l + 2 * l.length := by
  intro l
  induction l with
  | nil => exact Nat.zero_le _
  | cons t l ih =>
    cases l with
    | nil => rw [told_one]; simp [bytes]
    | cons u l =>
      rw [told_cons]
      have e : bytes (t :: u :: l) = t.2.length + bytes (u :: l) := rfl
      simp only [List.length_append, List.length_cons] at ih ⊢
      omega

/-- the texts of tokens, as cells -/
def texts (l : List (Int × List UInt8)) (k : Nat) : List Value := (l.take k).map fun t => .string ⟨t.2.toArray⟩

theorem texts_next {l : List (Int × List UInt8)} {k : Nat} (h : k < l.length) : texts l (k + 1) = texts l k ++ [.string (tAt l k)] := by
  unfold texts tAt
  rw [List.take_succ_eq_append_getElem h, List.map_append, List.getD_eq_getElem?_getD, List.getElem?_eq_getElem h]
  rfl

theorem three : cut [97, 32, 61, 49] 5 0 [] = ([(1, [97]), (3, [61]), (2, [49])], 0) := by decide +kernel
end Go.Proofs.Ytmmcpjmgindpkad.EqualTok
