/-
  WHAT token.runEnd AND token.Word GIVE, AND THE DOCUMENT's WordMay: the same.
  Conditions: each contract's own hypotheses.
-/
import Derived.Test.YtgjemlhnlpglbaaDoorR1
namespace Go.Proofs.YtgjemlhnlpglbaaDoor.Words
open Go.RowKit Bytes

theorem lookInto (s : ByteArray) (w : World) : Calls Tryd.prog 78 #[.string s] w fun e w' => e = .returned (.func (.func 89) #[] #[.pointer (some ⟨w.heap.size, 0, none⟩)]) ∧ w' = w.alloc (.cells #[.string s] 9) := by
  go_enter Tryd.func78, Tryd.ntmps78
  go_wp2
  go_ret
  exact ⟨rfl, rfl⟩

theorem runEnd (s : ByteArray) (hs : s.size ≤ maxLen) (k b : Nat) (hk : k ≤ s.size) (w : World) (hc : w.cell? ⟨b, 0, none⟩ = some (.string s)) :
    Calls Tryd.prog 80 #[.func (.func 89) #[] #[.pointer (some ⟨b, 0, none⟩)], .int .i64 k] w fun e w' => e = .returned (.int .i64 (endOf s.data.toList k)) ∧ w' = w := by
  have hlen : s.data.toList.length = s.size := by cases s; rfl
  have hm : s.size ≤ 9223372036854775807 := by unfold maxLen at hs; omega
  go_enter Tryd.func80, Tryd.ntmps80
  go_wp2
  go_loopw [1] (fun i wr => ∃ j : Nat, j ≤ s.size ∧ i = .int .i64 j ∧ endOf s.data.toList j = endOf s.data.toList k ∧ wr = w) (fun i _ => s.size - (intOf i).toNat)
  case atStart => exact ⟨k, hk, rfl, rfl, rfl⟩
  case round =>
    obtain ⟨j, hj, rfl, he, rfl⟩ := hrel
    cases hL : isLetter (at_ s.data.toList j)
    · cases hD : isDigit (at_ s.data.toList j)
      · have e0 := endOf_here (l := s.data.toList) (k := j) (by rw [hL, hD]; rfl)
        go_wp2_with (first
          | (go_at_call 89; refine (Bytes.look s hs _ _ _ hc).mono ?_; rintro e w' ⟨rfl, rfl⟩)
          | (go_at_call 79; refine (letter _ _).mono ?_; rintro e w' ⟨rfl, rfl⟩)
          | (go_at_call 90; refine (digit _ _).mono ?_; rintro e w' ⟨rfl, rfl⟩))
        go_ret
        exact ⟨by rw [← he, e0]; rfl, rfl⟩
      · obtain ⟨hlt, e0⟩ := endOf_next (l := s.data.toList) (k := j) (by rw [hL, hD]; rfl)
        have hjI : (j : Int) < 9223372036854775807 := by omega
        go_wp2_with (first
          | (go_at_call 89; refine (Bytes.look s hs _ _ _ hc).mono ?_; rintro e w' ⟨rfl, rfl⟩)
          | (go_at_call 79; refine (letter _ _).mono ?_; rintro e w' ⟨rfl, rfl⟩)
          | (go_at_call 90; refine (digit _ _).mono ?_; rintro e w' ⟨rfl, rfl⟩))
        go_roundw
        case rel => exact ⟨j + 1, by omega, by go_num, by rw [← he, e0], by first | rfl | trivial⟩
        case measure => simp [intOf]; omega
    · obtain ⟨hlt, e0⟩ := endOf_next (l := s.data.toList) (k := j) (by rw [hL]; rfl)
      have hjI : (j : Int) < 9223372036854775807 := by omega
      go_wp2_with (first
        | (go_at_call 89; refine (Bytes.look s hs _ _ _ hc).mono ?_; rintro e w' ⟨rfl, rfl⟩)
        | (go_at_call 79; refine (letter _ _).mono ?_; rintro e w' ⟨rfl, rfl⟩)
        | (go_at_call 90; refine (digit _ _).mono ?_; rintro e w' ⟨rfl, rfl⟩))
      go_roundw
      case rel => exact ⟨j + 1, by omega, by go_num, by rw [← he, e0], by first | rfl | trivial⟩
      case measure => simp [intOf]; omega

/-- P5.1: may it be a word? -/
def wordB (l : List UInt8) : Bool := decide (l.length ≤ 8) && (isLetter (at_ l 0) && decide (endOf l 0 = l.length))

theorem word (s : ByteArray) (hs : s.size ≤ maxLen) (w : World) : Calls Tryd.prog 68 #[.string s] w fun e w' => e = .returned (.bool (wordB s.data.toList)) ∧ w' = w.alloc (.cells #[.string s] 9) := by
  have hlen : s.data.toList.length = s.size := by cases s; rfl
  have hc : (w.alloc (.cells #[.string s] 9)).cell? ⟨w.heap.size, 0, none⟩ = some (.string s) := cell_of_heap (heap_alloc_new w _) rfl
  have hm : s.size ≤ 9223372036854775807 := by unfold maxLen at hs; omega
  by_cases h8 : s.size ≤ 8
  · have h8I : (s.size : Int) ≤ 8 := by omega
    cases hL : isLetter (at_ s.data.toList 0)
    · go_enter Tryd.func68, Tryd.ntmps68
      go_wp2_with (first
        | (go_at_call 78; refine (lookInto _ _).mono ?_; rintro e w' ⟨rfl, rfl⟩)
        | (go_at_call 89; refine (Bytes.look s hs 0 _ _ hc).mono ?_; rintro e w' ⟨rfl, rfl⟩)
        | (go_at_call 79; refine (letter _ _).mono ?_; rintro e w' ⟨rfl, rfl⟩))
      go_ret
      exact ⟨by simp [wordB, hL], rfl⟩
    · by_cases hE : endOf s.data.toList 0 = s.size
      · go_enter Tryd.func68, Tryd.ntmps68
        go_wp2_with (first
          | (go_at_call 78; refine (lookInto _ _).mono ?_; rintro e w' ⟨rfl, rfl⟩)
          | (go_at_call 89; refine (Bytes.look s hs 0 _ _ hc).mono ?_; rintro e w' ⟨rfl, rfl⟩)
          | (go_at_call 79; refine (letter _ _).mono ?_; rintro e w' ⟨rfl, rfl⟩)
          | (go_at_call 80; refine (runEnd s hs 0 _ (Nat.zero_le _) _ hc).mono ?_; rintro e w' ⟨rfl, rfl⟩))
        go_ret
        exact ⟨by simp [wordB, hL, hlen, h8, hE], rfl⟩
      · have hEI : ¬ ((endOf s.data.toList 0 : Nat) : Int) = (s.size : Int) := by omega
        go_enter Tryd.func68, Tryd.ntmps68
        go_wp2_with (first
          | (go_at_call 78; refine (lookInto _ _).mono ?_; rintro e w' ⟨rfl, rfl⟩)
          | (go_at_call 89; refine (Bytes.look s hs 0 _ _ hc).mono ?_; rintro e w' ⟨rfl, rfl⟩)
          | (go_at_call 79; refine (letter _ _).mono ?_; rintro e w' ⟨rfl, rfl⟩)
          | (go_at_call 80; refine (runEnd s hs 0 _ (Nat.zero_le _) _ hc).mono ?_; rintro e w' ⟨rfl, rfl⟩))
        go_ret
        exact ⟨by simp [wordB, hL, hlen, h8, hE]; exact hEI, rfl⟩
  · have h8I : (8 : Int) < s.size := by omega
    go_enter Tryd.func68, Tryd.ntmps68
    go_wp2_with (first
      | (go_at_call 78; refine (lookInto _ _).mono ?_; rintro e w' ⟨rfl, rfl⟩))
    go_ret
    exact ⟨by simp [wordB, hlen, h8], rfl⟩

theorem word_of {l : List UInt8} (h : wordB l = true) : l.length ≤ 8 ∧ isLetter (at_ l 0) = true ∧ endOf l 0 = l.length := by
  unfold wordB at h
  simpa using h

/-- letters and digits from a place to the end, one by one -/
theorem endOf_all {l : List UInt8} (k : Nat) (hk : k ≤ l.length) : endOf l k = l.length ↔ ∀ j, k ≤ j → j < l.length → (isLetter (at_ l j) || isDigit (at_ l j)) = true := by
  obtain ⟨n, hn⟩ : ∃ n, n = l.length - k := ⟨_, rfl⟩
  induction n generalizing k with
  | zero =>
    have e : k = l.length := by omega
    subst e
    have h := endOf_le l l.length (Nat.le_refl _)
    exact ⟨fun _ j h1 h2 => by omega, fun _ => by omega⟩
  | succ n ih =>
    cases hc : (isLetter (at_ l k) || isDigit (at_ l k))
    · rw [endOf_here hc]
      refine ⟨fun h => by omega, fun h => ?_⟩
      have := h k (Nat.le_refl _) (by omega)
      rw [hc] at this
      cases this
    · have h := endOf_next hc
      rw [h.2, ih (k + 1) (by omega) (by omega)]
      refine ⟨fun hh j h1 h2 => ?_, fun hh j h1 h2 => hh j (by omega) h2⟩
      by_cases e : j = k
      · subst e; exact hc
      · exact hh j (by omega) h2

theorem word_first {l : List UInt8} (h : isLetter (at_ l 0) = false) : wordB l = false := by simp [wordB, h]

theorem word_mid {l : List UInt8} (j : Nat) (hj : j < l.length) (h0 : isLetter (at_ l j) = false) (h1 : isDigit (at_ l j) = false) : wordB l = false := by
  have hE : ¬ endOf l 0 = l.length := fun h => by
    have := (endOf_all 0 (Nat.zero_le _)).1 h j (Nat.zero_le _) hj
    rw [h0, h1] at this
    cases this
  simp [wordB, hE]

theorem word_yes {l : List UInt8} (h8 : l.length ≤ 8) (h0 : isLetter (at_ l 0) = true) (h : endOf l 0 = l.length) : wordB l = true := by simp [wordB, h8, h0, h]

theorem word_len {l : List UInt8} (h : ¬ (1 ≤ l.length ∧ l.length ≤ 8)) : wordB l = false := by
  by_cases h8 : l.length ≤ 8
  · exact word_first (by rw [at_out (by omega)]; rfl)
  · simp [wordB, h8]

end Go.Proofs.YtgjemlhnlpglbaaDoor.Words
