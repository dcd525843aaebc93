/-
  WHAT token.Number GIVES, AND THE DOCUMENT's NumberOf: the same: what digits tell.
  Conditions: each contract's own hypotheses.
-/
import Derived.Test.YtmmcpjmgindpkadWords
namespace Go.Proofs.Ytmmcpjmgindpkad.Numbers
open Go.RowKit Bytes Words

/-- what the first digits of a text tell -/
def val (l : List UInt8) : Nat → Nat
  | 0 => 0
  | k + 1 => 10 * val l k + (at_ l k - 48)

theorem val_mono (l : List UInt8) {j k : Nat} (h : j ≤ k) : val l j ≤ val l k := by
  induction h with
  | refl => exact Nat.le_refl _
  | step _ ih => exact Nat.le_trans ih (by rw [val]; omega)

/-- digits alone, up to a place -/
def Digits (l : List UInt8) (k : Nat) : Prop := ∀ t, t < k → isDigit (at_ l t) = true

/-- P5.1: is it a number? -/
def Num (l : List UInt8) : Prop := 1 ≤ l.length ∧ Digits l l.length ∧ val l l.length ≤ 65535 ∧ ¬ (1 < l.length ∧ at_ l 0 = 48)

def numB (l : List UInt8) : Bool := decide (1 ≤ l.length) && ((List.range l.length).all fun t => isDigit (at_ l t)) && decide (val l l.length ≤ 65535) && !decide (1 < l.length ∧ at_ l 0 = 48)

theorem numB_iff (l : List UInt8) : numB l = true ↔ Num l := by
  simp only [numB, Num, Digits, Bool.and_eq_true, decide_eq_true_eq, List.all_eq_true, List.mem_range, Bool.not_eq_true', decide_eq_false_iff_not, and_assoc]

/-- P5.1: the number of a text, and whether it is one -/
def numOf (l : List UInt8) : Int × Bool := if numB l = true then (((val l l.length : Nat) : Int), true) else (0, false)

theorem num_no {l : List UInt8} (h : ¬ Num l) : numOf l = (0, false) := if_neg fun e => h ((numB_iff l).1 e)
theorem num_yes {l : List UInt8} (h : Num l) : numOf l = (((val l l.length : Nat) : Int), true) := if_pos ((numB_iff l).2 h)

theorem isWord (n : Int) (w : World) : Calls Try.prog 15 #[.int .i64 n] w fun e w' => e = .returned (.bool (decide (0 ≤ n ∧ n ≤ 65535))) ∧ w' = w := by
  by_cases c0 : 0 ≤ n <;> by_cases c1 : n ≤ 65535
  all_goals
    go_enter Try.func15, Try.ntmps15
    go_wp2
    go_ret
    exact ⟨by simp [c0, c1], rfl⟩

theorem isWord_yes (n : Int) (h : 0 ≤ n) (h' : n ≤ 65535) (w : World) : Calls Try.prog 15 #[.int .i64 n] w fun e w' => e = .returned (.bool true) ∧ w' = w :=
  (isWord n w).mono fun e w' ⟨he, hw⟩ => ⟨he.trans (by rw [decide_eq_true ⟨h, h'⟩]), hw⟩

theorem isWord_no (n : Int) (h : 65535 < n) (w : World) : Calls Try.prog 15 #[.int .i64 n] w fun e w' => e = .returned (.bool false) ∧ w' = w :=
  (isWord n w).mono fun e w' ⟨he, hw⟩ => ⟨he.trans (by rw [decide_eq_false (by omega)]), hw⟩

theorem digitI (n : Int) (w : World) : Calls Try.prog 14 #[.int .u8 n] w fun e w' => e = .returned (.bool (decide (48 ≤ n ∧ n ≤ 57))) ∧ w' = w := by
  by_cases c0 : 48 ≤ n <;> by_cases c1 : n ≤ 57
  all_goals
    go_enter Try.func14, Try.ntmps14
    go_wp2
    go_ret
    exact ⟨by simp [c0, c1], rfl⟩

theorem digit_yes (n : Int) (h : 48 ≤ n) (h' : n ≤ 57) (w : World) : Calls Try.prog 14 #[.int .u8 n] w fun e w' => e = .returned (.bool true) ∧ w' = w :=
  (digitI n w).mono fun e w' ⟨he, hw⟩ => ⟨he.trans (by rw [decide_eq_true ⟨h, h'⟩]), hw⟩

theorem digit_no (n : Int) (h : n < 48 ∨ 57 < n) (w : World) : Calls Try.prog 14 #[.int .u8 n] w fun e w' => e = .returned (.bool false) ∧ w' = w :=
  (digitI n w).mono fun e w' ⟨he, hw⟩ => ⟨he.trans (by rw [decide_eq_false (by omega)]), hw⟩

theorem digits_next {l : List UInt8} {j : Nat} {x : Int} (h : Digits l j) (hx : (at_ l j : Int) = x) (h0 : 48 ≤ x) (h1 : x ≤ 57) : Digits l (j + 1) := fun t ht => by
  by_cases e : t < j
  · exact h t e
  · obtain rfl : t = j := by omega
    exact decide_eq_true (by omega)

theorem not_digit {l : List UInt8} {j : Nat} {x : Int} (hj : j < l.length) (hx : (at_ l j : Int) = x) (h : x < 48 ∨ 57 < x) : ¬ Num l := fun hn => by
  have h1 := of_decide_eq_true (hn.2.1 j hj)
  omega

theorem val_next {l : List UInt8} {j : Nat} {v x : Int} (hv : (val l j : Int) = v) (hx : (at_ l j : Int) = x) (h0 : 48 ≤ x) : ((val l (j + 1) : Nat) : Int) = 10 * v + (x - 48) := by
  rw [val]
  omega

theorem too_great {l : List UInt8} {j : Nat} (hj : j ≤ l.length) (h : 65535 < val l j) : ¬ Num l := fun hn => by
  have := val_mono l hj
  have := hn.2.2.1
  omega

set_option maxRecDepth 100000 in
theorem numberOf (s : ByteArray) (hs : s.size ≤ maxLen) (w : World) : Calls Try.prog 7 #[.string s] w fun e w' => e = .returned (.tuple #[.int .i64 (numOf s.data.toList).1, .bool (numOf s.data.toList).2]) ∧ w' = w := by
  have hlen : s.data.toList.length = s.size := by cases s; rfl
  have hm : s.size ≤ 9223372036854775807 := by unfold maxLen at hs; omega
  go_enter Try.func7, Try.ntmps7
  go_wp2
  go_loopw [4, 5] (fun n i wr => ∃ (j : Nat) (v : Int), j ≤ s.size ∧ i = .int .i64 j ∧ n = .int .i64 v ∧ 0 ≤ v ∧ v ≤ 655359 ∧ Hid ((val s.data.toList j : Int) = v ∧ Digits s.data.toList j) ∧ wr = w) (fun _ i _ => s.size - (intOf i).toNat)
  case atStart => exact ⟨0, 0, Nat.zero_le _, rfl, rfl, by decide, by decide, ⟨rfl, fun t ht => by omega⟩, rfl⟩
  case round =>
    obtain ⟨j, v, hj, rfl, rfl, hv0, hv, HV, rfl⟩ := hrel
    by_cases hlt : j < s.size
    · have hltI : (j : Int) < s.size := by omega
      have hjI : (j : Int) < 9223372036854775807 := by omega
      obtain ⟨x, hx, hat⟩ : ∃ x : Int, (at_ s.data.toList j : Int) = x ∧ ∀ h : j < s.size, ((s[j]'h).toNat : Int) = x := ⟨_, rfl, fun h => by rw [at_in h]⟩
      have HX : Hid _ := hx
      have hx0 : 0 ≤ x := by omega
      have hx256 : x < 256 := by have := at_lt s.data.toList j; omega
      clear hx
      by_cases hD : 48 ≤ x ∧ x ≤ 57
      · have hD0 : 48 ≤ x := hD.1
        have hD1 : x ≤ 57 := hD.2
        clear hD
        by_cases hv6 : v ≤ 65535
        · have hv6' : decide (65535 < v) = false := decide_eq_false (by omega)
          have HV6 : Hid _ := hv6
          clear hv6
          go_wp2_with (go_at_call 16; refine (isIn_yes _ _ _ (by omega) (by omega) _).mono ?_; rintro e w' ⟨rfl, rfl⟩)
          go_roundw
          case rel => exact ⟨j + 1, 10 * v + (x - 48), by omega, by go_num, by go_num, by omega, by have h1 := HV6.out; omega, ⟨val_next HV.out.1 HX.out (by omega), digits_next HV.out.2 HX.out (by omega) (by omega)⟩, by first | rfl | trivial⟩
          case measure => simp [intOf]; omega
        · have hn : numOf s.data.toList = (0, false) := num_no (too_great (j := j) (by omega) (by have h1 := HV.out.1; omega))
          have hv6I : 65535 < v := by omega
          have HN : Hid _ := hn
          clear hn hv6
          go_wp2_with (go_at_call 16; refine (isIn_yes _ _ _ (by omega) (by omega) _).mono ?_; rintro e w' ⟨rfl, rfl⟩)
          go_ret2
          exact ⟨by rw [HN.out]; rfl, rfl⟩
      · have HN : Hid (numOf s.data.toList = (0, false)) := num_no (not_digit (j := j) (by omega) HX.out (by omega))
        have HD : Hid (x < 48 ∨ 57 < x) := (by omega : x < 48 ∨ 57 < x)
        clear hD
        go_wp2_with (go_at_call 16; refine (isIn_no _ _ _ (by have h1 := HD.out; omega) _).mono ?_; rintro e w' ⟨rfl, rfl⟩)
        go_ret2
        exact ⟨by rw [HN.out]; rfl, rfl⟩
    · obtain rfl : j = s.size := by omega
      have h1v := HV.out.1
      have h2v := HV.out.2
      have HY : Hid (1 ≤ s.size → v ≤ 65535 → ¬ (1 < s.size ∧ at_ s.data.toList 0 = 48) → numOf s.data.toList = (v, true)) := fun a b c => by
        rw [num_yes ⟨by omega, by rw [hlen]; exact h2v, by rw [hlen]; omega, by rw [hlen]; exact c⟩, hlen, h1v]
      clear h1v h2v
      by_cases h0 : s.size = 0
      · have h0I : ((s.size : Int) == 0) = true := by simp [h0]
        have HN : Hid (numOf s.data.toList = (0, false)) := num_no (fun hn => by have h1 := hn.1; omega)
        clear h0
        go_wp2
        go_ret2
        exact ⟨by rw [HN.out]; rfl, rfl⟩
      · have h0I : ((s.size : Int) == 0) = false := beq_eq_false_iff_ne.2 (by omega)
        by_cases hv6 : v ≤ 65535
        · by_cases h1 : 1 < s.size
          · have h1I : (1 : Int) < s.size := by omega
            have hp : 0 < s.size := by omega
            have hpI : (0 : Int) < s.size := by omega
            obtain ⟨x, hx, hat⟩ : ∃ x : Int, (at_ s.data.toList 0 : Int) = x ∧ ∀ h : 0 < s.size, ((s[0]'h).toNat : Int) = x := ⟨_, rfl, fun h => by rw [at_in h]⟩
            by_cases hx0 : x = 48
            · have hxI : (x == 48) = true := by simp [hx0]
              have HN : Hid (numOf s.data.toList = (0, false)) := num_no (fun hn => hn.2.2.2 ⟨by omega, by omega⟩)
              clear hx0 hx
              go_wp2
              go_ret2
              exact ⟨by rw [HN.out]; rfl, rfl⟩
            · have hxI : (x == 48) = false := by simp; omega
              have HN : Hid (numOf s.data.toList = (v, true)) := HY.out (by omega) hv6 (fun h => by have h2 := h.2; omega)
              clear hx0 hx HY
              go_wp2
              go_ret2
              exact ⟨by rw [HN.out]; rfl, rfl⟩
          · have h1I : (s.size : Int) ≤ 1 := by omega
            have HN : Hid (numOf s.data.toList = (v, true)) := HY.out (by omega) hv6 (fun h => by have h2 := h.1; omega)
            clear HY
            go_wp2
            go_ret2
            exact ⟨by rw [HN.out]; rfl, rfl⟩
        · have hv6I : 65535 < v := by omega
          have HN : Hid (numOf s.data.toList = (0, false)) := num_no (too_great (j := s.size) (by omega) (by have h1 := HV.out.1; omega))
          clear hv6
          go_wp2
          go_ret2
          exact ⟨by rw [HN.out]; rfl, rfl⟩

set_option maxRecDepth 100000 in
set_option maxHeartbeats 1600000 in
theorem number (s : ByteArray) (hs : s.size ≤ maxLen) (w : World) : Calls Try.prog 6 #[.string s] w fun e w' => e = .returned (.tuple #[.int .i64 (numOf s.data.toList).1, .bool (numOf s.data.toList).2]) ∧ w' = w.alloc (.cells #[.string s] 9) := by
  have hlen : s.data.toList.length = s.size := by cases s; rfl
  have hc : (w.alloc (.cells #[.string s] 9)).cell? ⟨w.heap.size, 0, none⟩ = some (.string s) := cell_of_heap (heap_alloc_new w _) rfl
  have hm : s.size ≤ 9223372036854775807 := by unfold maxLen at hs; omega
  have KL : Hid (∀ k : Nat, ∀ x : Int, (at_ s.data.toList k : Int) = x → Calls Try.prog 24 #[.int .i64 k, .pointer (some ⟨w.heap.size, 0, none⟩)] (w.alloc (.cells #[.string s] 9)) fun e w' => e = .returned (.int .u8 x) ∧ w' = w.alloc (.cells #[.string s] 9)) := fun k x hx => by
    rw [← hx]
    exact Bytes.look s hs k _ _ hc
  have hemp : (s.toList == []) = decide (s.size = 0) := by
    rw [ByteArray.toList_eq]
    by_cases h : s.size = 0
    · rw [decide_eq_true h, List.eq_nil_of_length_eq_zero (hlen.trans h)]
      rfl
    · rw [decide_eq_false h, beq_eq_false_iff_ne]
      intro e
      rw [e] at hlen
      exact h hlen.symm
  have hnil : (ByteArray.mk #[]).toList = [] := by rw [ByteArray.toList_eq]
  by_cases h0 : s.size = 0
  · rw [decide_eq_true h0] at hemp
    have HN : Hid (numOf s.data.toList = (0, false)) := num_no (fun hn => by have h1 := hn.1; omega)
    clear h0
    go_enter Try.func6, Try.ntmps6
    go_wp2_with (first
      | (go_at_call 13; refine (lookInto _ _).mono ?_; rintro e w' ⟨rfl, rfl⟩))
    go_ret2
    exact ⟨by rw [HN.out]; rfl, rfl⟩
  · rw [decide_eq_false h0] at hemp
    obtain ⟨x0, hx0⟩ : ∃ x0 : Int, (at_ s.data.toList 0 : Int) = x0 := ⟨_, rfl⟩
    have K0 : Hid (∀ W, W = w.alloc (.cells #[.string s] 9) → Calls Try.prog 24 #[.int .i64 0, .pointer (some ⟨w.heap.size, 0, none⟩)] W fun e w' => e = .returned (.int .u8 x0) ∧ w' = W) := fun W hW => by
      subst hW
      exact KL.out 0 x0 hx0
    by_cases h48 : x0 = 48 ∧ 1 < s.size
    · have hx48 : (x0 == 48) = true := by rw [h48.1]; rfl
      have h1I : (1 : Int) < s.size := by omega
      have HN : Hid (numOf s.data.toList = (0, false)) := num_no (fun hn => hn.2.2.2 ⟨by omega, by omega⟩)
      clear h48 hx0 h0
      go_enter Try.func6, Try.ntmps6
      go_wp2_with (first
        | (go_at_call 13; refine (lookInto _ _).mono ?_; rintro e w' ⟨rfl, rfl⟩)
        | (go_at_call 24; refine (K0.out _ rfl).mono ?_; rintro e w' ⟨rfl, rfl⟩))
      go_ret2
      exact ⟨by rw [HN.out]; rfl, rfl⟩
    · have HY : Hid (∀ v : Int, (val s.data.toList s.size : Int) = v → Digits s.data.toList s.size → v ≤ 65535 → numOf s.data.toList = (v, true)) := fun v a b c => by
        rw [num_yes ⟨by omega, by rw [hlen]; exact b, by rw [hlen]; omega, fun h => h48 ⟨by omega, by omega⟩⟩, hlen, a]
      rcases (show (x0 ≠ 48 ∨ (x0 = 48 ∧ s.size ≤ 1)) by omega) with hx | ⟨hx, h1⟩
      · have hx48 : (x0 == 48) = false := beq_eq_false_iff_ne.2 hx
        clear h48 hx0 h0 hx
        go_enter Try.func6, Try.ntmps6
        go_wp2_with (first
          | (go_at_call 13; refine (lookInto _ _).mono ?_; rintro e w' ⟨rfl, rfl⟩)
          | (go_at_call 24; refine (K0.out _ rfl).mono ?_; rintro e w' ⟨rfl, rfl⟩))
        go_loopw [5, 24] (fun n i wr => ∃ (j : Nat) (v : Int), j ≤ s.size ∧ i = .int .i64 j ∧ n = .int .i64 v ∧ 0 ≤ v ∧ v ≤ 655359 ∧ Hid ((val s.data.toList j : Int) = v ∧ v ≤ 65535 ∧ Digits s.data.toList j) ∧ wr = w.alloc (.cells #[.string s] 9)) (fun _ i _ => s.size - (intOf i).toNat)
        case atStart => exact ⟨0, 0, Nat.zero_le _, rfl, rfl, by decide, by decide, ⟨rfl, by decide, fun t ht => by omega⟩, rfl⟩
        case round =>
          obtain ⟨j, v, hj, rfl, rfl, hv0, hv, HV, rfl⟩ := hrel
          by_cases hlt : j < s.size
          · have hltI : (j : Int) < s.size := by omega
            have hjI : (j : Int) < 9223372036854775807 := by omega
            obtain ⟨x, hx⟩ : ∃ x : Int, (at_ s.data.toList j : Int) = x := ⟨_, rfl⟩
            have KJ : Hid (∀ W, W = w.alloc (.cells #[.string s] 9) → Calls Try.prog 24 #[.int .i64 j, .pointer (some ⟨w.heap.size, 0, none⟩)] W fun e w' => e = .returned (.int .u8 x) ∧ w' = W) := fun W hW => by
              subst hW
              exact KL.out j x hx
            have HX : Hid _ := hx
            have hx0 : 0 ≤ x := by omega
            have hx256 : x < 256 := by have := at_lt s.data.toList j; omega
            clear hx
            by_cases hD : 48 ≤ x ∧ x ≤ 57
            · have hD0 : 48 ≤ x := hD.1
              have hD1 : x ≤ 57 := hD.2
              clear hD
              by_cases hv6 : 10 * v + (x - 48) ≤ 65535
              · have HV6 : Hid _ := hv6
                clear hv6
                go_wp2_with (first
                  | (go_at_call 24; refine (KJ.out _ rfl).mono ?_; rintro e w' ⟨rfl, rfl⟩)
                  | (go_at_call 14; refine (digit_yes _ (by omega) (by omega) _).mono ?_; rintro e w' ⟨rfl, rfl⟩)
                  | (go_at_call 15; refine (isWord_yes _ (by omega) (by have h1 := HV6.out; omega) _).mono ?_; rintro e w' ⟨rfl, rfl⟩))
                go_roundw
                case rel => exact ⟨j + 1, 10 * v + (x - 48), by omega, by go_num, by go_num, by omega, by have h1 := HV6.out; omega, ⟨val_next HV.out.1 HX.out (by omega), HV6.out, digits_next HV.out.2.2 HX.out (by omega) (by omega)⟩, by first | rfl | trivial⟩
                case measure => simp [intOf]; omega
              · have HN : Hid (numOf s.data.toList = (0, false)) := num_no (too_great (j := j + 1) (by omega) (by have h1 := val_next HV.out.1 HX.out (by omega); omega))
                have HV6 : Hid (65535 < 10 * v + (x - 48)) := (by omega : 65535 < 10 * v + (x - 48))
                clear hv6
                go_wp2_with (first
                  | (go_at_call 24; refine (KJ.out _ rfl).mono ?_; rintro e w' ⟨rfl, rfl⟩)
                  | (go_at_call 14; refine (digit_yes _ (by omega) (by omega) _).mono ?_; rintro e w' ⟨rfl, rfl⟩)
                  | (go_at_call 15; refine (isWord_no _ (by have h1 := HV6.out; omega) _).mono ?_; rintro e w' ⟨rfl, rfl⟩))
                go_ret2
                exact ⟨by rw [HN.out]; rfl, rfl⟩
            · have HN : Hid (numOf s.data.toList = (0, false)) := num_no (not_digit (j := j) (by omega) HX.out (by omega))
              have HD : Hid (x < 48 ∨ 57 < x) := (by omega : x < 48 ∨ 57 < x)
              clear hD
              go_wp2_with (first
                | (go_at_call 24; refine (KJ.out _ rfl).mono ?_; rintro e w' ⟨rfl, rfl⟩)
                | (go_at_call 14; refine (digit_no _ HD.out _).mono ?_; rintro e w' ⟨rfl, rfl⟩))
              go_ret2
              exact ⟨by rw [HN.out]; rfl, rfl⟩
          · obtain rfl : j = s.size := by omega
            have HN : Hid (numOf s.data.toList = (v, true)) := HY.out v HV.out.1 HV.out.2.2 HV.out.2.1
            go_wp2
            go_ret2
            exact ⟨by rw [HN.out]; rfl, rfl⟩
      · have hx48 : (x0 == 48) = true := by rw [hx]; rfl
        have h1I : (s.size : Int) ≤ 1 := by omega
        clear h48 hx0 h0 hx
        go_enter Try.func6, Try.ntmps6
        go_wp2_with (first
          | (go_at_call 13; refine (lookInto _ _).mono ?_; rintro e w' ⟨rfl, rfl⟩)
          | (go_at_call 24; refine (K0.out _ rfl).mono ?_; rintro e w' ⟨rfl, rfl⟩))
        go_loopw [5, 24] (fun n i wr => ∃ (j : Nat) (v : Int), j ≤ s.size ∧ i = .int .i64 j ∧ n = .int .i64 v ∧ 0 ≤ v ∧ v ≤ 655359 ∧ Hid ((val s.data.toList j : Int) = v ∧ v ≤ 65535 ∧ Digits s.data.toList j) ∧ wr = w.alloc (.cells #[.string s] 9)) (fun _ i _ => s.size - (intOf i).toNat)
        case atStart => exact ⟨0, 0, Nat.zero_le _, rfl, rfl, by decide, by decide, ⟨rfl, by decide, fun t ht => by omega⟩, rfl⟩
        case round =>
          obtain ⟨j, v, hj, rfl, rfl, hv0, hv, HV, rfl⟩ := hrel
          by_cases hlt : j < s.size
          · have hltI : (j : Int) < s.size := by omega
            have hjI : (j : Int) < 9223372036854775807 := by omega
            obtain ⟨x, hx⟩ : ∃ x : Int, (at_ s.data.toList j : Int) = x := ⟨_, rfl⟩
            have KJ : Hid (∀ W, W = w.alloc (.cells #[.string s] 9) → Calls Try.prog 24 #[.int .i64 j, .pointer (some ⟨w.heap.size, 0, none⟩)] W fun e w' => e = .returned (.int .u8 x) ∧ w' = W) := fun W hW => by
              subst hW
              exact KL.out j x hx
            have HX : Hid _ := hx
            have hx0 : 0 ≤ x := by omega
            have hx256 : x < 256 := by have := at_lt s.data.toList j; omega
            clear hx
            by_cases hD : 48 ≤ x ∧ x ≤ 57
            · have hD0 : 48 ≤ x := hD.1
              have hD1 : x ≤ 57 := hD.2
              clear hD
              by_cases hv6 : 10 * v + (x - 48) ≤ 65535
              · have HV6 : Hid _ := hv6
                clear hv6
                go_wp2_with (first
                  | (go_at_call 24; refine (KJ.out _ rfl).mono ?_; rintro e w' ⟨rfl, rfl⟩)
                  | (go_at_call 14; refine (digit_yes _ (by omega) (by omega) _).mono ?_; rintro e w' ⟨rfl, rfl⟩)
                  | (go_at_call 15; refine (isWord_yes _ (by omega) (by have h1 := HV6.out; omega) _).mono ?_; rintro e w' ⟨rfl, rfl⟩))
                go_roundw
                case rel => exact ⟨j + 1, 10 * v + (x - 48), by omega, by go_num, by go_num, by omega, by have h1 := HV6.out; omega, ⟨val_next HV.out.1 HX.out (by omega), HV6.out, digits_next HV.out.2.2 HX.out (by omega) (by omega)⟩, by first | rfl | trivial⟩
                case measure => simp [intOf]; omega
              · have HN : Hid (numOf s.data.toList = (0, false)) := num_no (too_great (j := j + 1) (by omega) (by have h1 := val_next HV.out.1 HX.out (by omega); omega))
                have HV6 : Hid (65535 < 10 * v + (x - 48)) := (by omega : 65535 < 10 * v + (x - 48))
                clear hv6
                go_wp2_with (first
                  | (go_at_call 24; refine (KJ.out _ rfl).mono ?_; rintro e w' ⟨rfl, rfl⟩)
                  | (go_at_call 14; refine (digit_yes _ (by omega) (by omega) _).mono ?_; rintro e w' ⟨rfl, rfl⟩)
                  | (go_at_call 15; refine (isWord_no _ (by have h1 := HV6.out; omega) _).mono ?_; rintro e w' ⟨rfl, rfl⟩))
                go_ret2
                exact ⟨by rw [HN.out]; rfl, rfl⟩
            · have HN : Hid (numOf s.data.toList = (0, false)) := num_no (not_digit (j := j) (by omega) HX.out (by omega))
              have HD : Hid (x < 48 ∨ 57 < x) := (by omega : x < 48 ∨ 57 < x)
              clear hD
              go_wp2_with (first
                | (go_at_call 24; refine (KJ.out _ rfl).mono ?_; rintro e w' ⟨rfl, rfl⟩)
                | (go_at_call 14; refine (digit_no _ HD.out _).mono ?_; rintro e w' ⟨rfl, rfl⟩))
              go_ret2
              exact ⟨by rw [HN.out]; rfl, rfl⟩
          · obtain rfl : j = s.size := by omega
            have HN : Hid (numOf s.data.toList = (v, true)) := HY.out v HV.out.1 HV.out.2.2 HV.out.2.1
            go_wp2
            go_ret2
            exact ⟨by rw [HN.out]; rfl, rfl⟩
end Go.Proofs.Ytmmcpjmgindpkad.Numbers
