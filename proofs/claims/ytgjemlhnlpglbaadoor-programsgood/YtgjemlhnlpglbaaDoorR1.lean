/-
  WHERE A NAME STANDS, AND WHETHER ONE STANDS TWICE, PLAIN.
  Conditions: none.
  BYTES OF A TEXT: what package token's letter, digit, lookInto, its closure and runEnd give, and the document's In.
  Conditions: each contract's own hypotheses (the text lies in its cell).
-/
import Derived.Test.YtgjemlhnlpglbaaDoorR0
import Derived.Test.YtgjemlhnlpglbaaDoorChecked
import Derived.WalkKit
import Derived.ProofKit
import Derived.OpenShut
namespace Go.Proofs.YtgjemlhnlpglbaaDoor.NPlain
open Go.RowKit NPlace

theorem place_range (z : Nat → ByteArray) (s : ByteArray) : ∀ (k i : Nat), placeFrom z s i k = -1 ∨ ((i : Int) ≤ placeFrom z s i k ∧ placeFrom z s i k < (i : Int) + k)
  | 0, i => .inl rfl
  | k + 1, i => by
    rw [placeFrom]
    split
    · exact .inr ⟨by omega, by omega⟩
    · rcases place_range z s k (i + 1) with h | h
      · exact .inl h
      · exact .inr ⟨by omega, by omega⟩

theorem place_append (z : Nat → ByteArray) (s : ByteArray) : ∀ (k i m : Nat), placeFrom z s i (k + m) = if placeFrom z s i k = -1 then placeFrom z s (i + k) m else placeFrom z s i k
  | 0, i, m => by rw [Nat.zero_add, placeFrom, if_pos rfl]; rfl
  | k + 1, i, m => by
    rw [show k + 1 + m = (k + m) + 1 by omega, placeFrom, placeFrom]
    split
    · rw [if_neg (by omega)]
    · rw [place_append z s k (i + 1) m, show i + 1 + k = i + (k + 1) by omega]

theorem place_congr {z y : Nat → ByteArray} {s : ByteArray} : ∀ (k i j : Nat), (∀ x, x < k → z (i + x) = y (j + x)) → (placeFrom z s i k = -1 ↔ placeFrom y s j k = -1)
  | 0, i, j, _ => ⟨fun _ => rfl, fun _ => rfl⟩
  | k + 1, i, j, h => by
    rw [placeFrom, placeFrom, show z i = y j by simpa using h 0 (by omega)]
    split
    · constructor <;> intro e <;> omega
    · exact place_congr k (i + 1) (j + 1) fun x hx => by rw [show i + 1 + x = i + (x + 1) by omega, show j + 1 + x = j + (x + 1) by omega]; exact h (x + 1) (by omega)

theorem place_same {z y : Nat → ByteArray} {s : ByteArray} : ∀ (k i : Nat), (∀ x, x < k → z (i + x) = y (i + x)) → placeFrom z s i k = placeFrom y s i k
  | 0, i, _ => rfl
  | k + 1, i, h => by
    have e := place_same (z := z) (y := y) (s := s) k (i + 1) fun x hx => (by rw [show i + 1 + x = i + (x + 1) by omega]; exact h (x + 1) (by omega))
    rw [placeFrom, placeFrom, show z i = y i by simpa using h 0 (by omega), e]

/-- is there such a name? -/
def hasB (z : Nat → ByteArray) (s : ByteArray) (n : Nat) : Bool := decide (0 ≤ placeFrom z s 0 n)

theorem hasB_iff (z : Nat → ByteArray) (s : ByteArray) (n : Nat) : hasB z s n = true ↔ placeFrom z s 0 n ≠ -1 := by
  rcases place_range z s n 0 with h | h
  · simp [hasB, h]
  · simp only [hasB, decide_eq_true_eq]
    omega

/-- both lists, one behind the other -/
def both (a : Nat) (z y : Nat → ByteArray) : Nat → ByteArray := fun i => if i < a then z i else y (i - a)

theorem has_both (a b : Nat) (z y : Nat → ByteArray) (s : ByteArray) : hasB (both a z y) s (a + b) = (hasB z s a || hasB y s b) := by
  have e1 : placeFrom (both a z y) s 0 a = placeFrom z s 0 a := place_same a 0 fun x hx => by simp [both, hx]
  have e2 : placeFrom (both a z y) s (0 + a) b = -1 ↔ placeFrom y s 0 b = -1 := place_congr b (0 + a) 0 fun x hx => by rw [both, if_neg (by omega)]; congr 1; omega
  rw [Bool.eq_iff_iff, hasB_iff, Bool.or_eq_true, hasB_iff, hasB_iff, place_append, e1]
  by_cases h : placeFrom z s 0 a = -1
  · rw [if_pos h, Ne, e2]
    simp [h]
  · rw [if_neg h]
    simp [h]

/-- does a name stand behind the first place that has it, from place i on -/
def twiceFrom (z : Nat → ByteArray) (n : Nat) : Nat → Nat → Bool
  | _, 0 => false
  | i, k + 1 => if placeFrom z (z i) 0 n < i then true else twiceFrom z n (i + 1) k
def twiceB (z : Nat → ByteArray) (n : Nat) : Bool := twiceFrom z n 0 n

/-- the same, asked of what stands ahead -/
def doubledFrom (z : Nat → ByteArray) : Nat → Nat → Bool
  | _, 0 => false
  | i, k + 1 => if hasB z (z i) i = true then true else doubledFrom z (i + 1) k
def doubledB (z : Nat → ByteArray) (n : Nat) : Bool := doubledFrom z 0 n

theorem ahead (z : Nat → ByteArray) (n i : Nat) (hi : i < n) : placeFrom z (z i) 0 n < i ↔ hasB z (z i) i = true := by
  have e : n = i + ((n - (i + 1)) + 1) := by omega
  have h0 : placeFrom z (z i) 0 n = if placeFrom z (z i) 0 i = -1 then (i : Int) else placeFrom z (z i) 0 i := by
    rw [e, place_append, Nat.zero_add, placeFrom, if_pos (beq_self_eq_true _)]
  rw [h0, hasB_iff]
  rcases place_range z (z i) i 0 with h | h
  · rw [if_pos h]
    simp [h]
  · rw [if_neg (by omega)]
    constructor <;> intro _ <;> omega

theorem twice_doubled (z : Nat → ByteArray) (n : Nat) : ∀ (k i : Nat), i + k ≤ n → twiceFrom z n i k = doubledFrom z i k
  | 0, _, _ => rfl
  | k + 1, i, h => by
    rw [twiceFrom, doubledFrom, twice_doubled z n k (i + 1) (by omega)]
    have := ahead z n i (by omega)
    by_cases c : hasB z (z i) i = true
    · rw [if_pos c, if_pos (this.2 c)]
    · rw [if_neg c, if_neg (fun x => c (this.1 x))]

theorem twice_eq (z : Nat → ByteArray) (n : Nat) : twiceB z n = doubledB z n := twice_doubled z n n 0 (by omega)
end Go.Proofs.YtgjemlhnlpglbaaDoor.NPlain

namespace Go.Proofs.YtgjemlhnlpglbaaDoor.Bytes
open Go.RowKit

/-- the byte at a place of a text; 0 behind its end -/
def at_ (l : List UInt8) (k : Nat) : Nat := (l.getD k 0).toNat

theorem at_lt (l : List UInt8) (k : Nat) : at_ l k < 256 := (l.getD k 0).toNat_lt

theorem at_out {l : List UInt8} {k : Nat} (h : l.length ≤ k) : at_ l k = 0 := by
  unfold at_
  rw [List.getD_eq_getElem?_getD, List.getElem?_eq_none h]
  rfl

theorem at_in {s : ByteArray} {k : Nat} (h : k < s.size) : (s[k]'h).toNat = at_ s.data.toList k := by
  obtain ⟨⟨l⟩⟩ := s
  have hl : k < l.length := h
  show (l[k]'hl).toNat = _
  unfold at_
  rw [List.getD_eq_getElem?_getD, List.getElem?_eq_getElem hl]
  rfl

def isLetter (n : Nat) : Bool := decide (97 ≤ n ∧ n ≤ 122)
def isDigit (n : Nat) : Bool := decide (48 ≤ n ∧ n ≤ 57)

/-- where the letters and digits that begin at a place end -/
def endOf (l : List UInt8) (k : Nat) : Nat := k + ((l.drop k).takeWhile fun b => isLetter b.toNat || isDigit b.toNat).length

theorem endOf_next {l : List UInt8} {k : Nat} (h : (isLetter (at_ l k) || isDigit (at_ l k)) = true) : k < l.length ∧ endOf l k = endOf l (k + 1) := by
  have hk : k < l.length := by
    refine Nat.lt_of_not_le fun hle => ?_
    rw [at_out hle] at h
    revert h
    decide
  refine ⟨hk, ?_⟩
  have e : at_ l k = (l[k]'hk).toNat := by unfold at_; rw [List.getD_eq_getElem?_getD, List.getElem?_eq_getElem hk]; rfl
  unfold endOf
  rw [List.drop_eq_getElem_cons hk, List.takeWhile_cons, ← e, if_pos h, List.length_cons]
  omega

theorem endOf_here {l : List UInt8} {k : Nat} (h : (isLetter (at_ l k) || isDigit (at_ l k)) = false) : endOf l k = k := by
  by_cases hk : k < l.length
  · have e : at_ l k = (l[k]'hk).toNat := by unfold at_; rw [List.getD_eq_getElem?_getD, List.getElem?_eq_getElem hk]; rfl
    unfold endOf
    rw [List.drop_eq_getElem_cons hk, List.takeWhile_cons, ← e, if_neg (by rw [h]; decide)]
    rfl
  · unfold endOf
    rw [List.drop_of_length_le (by omega)]
    rfl

theorem endOf_le (l : List UInt8) (k : Nat) (h : k ≤ l.length) : k ≤ endOf l k ∧ endOf l k ≤ l.length := by
  unfold endOf
  have := (List.takeWhile_sublist (fun b : UInt8 => isLetter b.toNat || isDigit b.toNat) (l := l.drop k)).length_le
  rw [List.length_drop] at this
  omega

theorem isLetter_int (n : Nat) : isLetter n = (decide ((97 : Int) ≤ n) && decide ((n : Int) ≤ 122)) := by
  unfold isLetter
  rw [Bool.decide_and, show decide (97 ≤ n) = decide ((97 : Int) ≤ n) from decide_eq_decide.2 (by omega), show decide (n ≤ 122) = decide ((n : Int) ≤ 122) from decide_eq_decide.2 (by omega)]

theorem isDigit_int (n : Nat) : isDigit n = (decide ((48 : Int) ≤ n) && decide ((n : Int) ≤ 57)) := by
  unfold isDigit
  rw [Bool.decide_and, show decide (48 ≤ n) = decide ((48 : Int) ≤ n) from decide_eq_decide.2 (by omega), show decide (n ≤ 57) = decide ((n : Int) ≤ 57) from decide_eq_decide.2 (by omega)]

theorem letter (n : Nat) (w : World) : Calls Tryd.prog 79 #[.int .u8 n] w fun e w' => e = .returned (.bool (isLetter n)) ∧ w' = w := by
  by_cases c0 : (97 : Int) ≤ n <;> by_cases c1 : (n : Int) ≤ 122
  all_goals
    go_enter Tryd.func79, Tryd.ntmps79
    go_wp2
    go_ret
    exact ⟨by rw [isLetter_int]; simp [c0, c1], rfl⟩

theorem digit (n : Nat) (w : World) : Calls Tryd.prog 90 #[.int .u8 n] w fun e w' => e = .returned (.bool (isDigit n)) ∧ w' = w := by
  by_cases c0 : (48 : Int) ≤ n <;> by_cases c1 : (n : Int) ≤ 57
  all_goals
    go_enter Tryd.func90, Tryd.ntmps90
    go_wp2
    go_ret
    exact ⟨by rw [isDigit_int]; simp [c0, c1], rfl⟩

theorem cell_of_heap {w : World} {g i : Nat} {cs : Array Value} {t : TypeId} {v : Value} (h : w.heap[g]? = some (.cells cs t)) (hv : cs[i]? = some v) : w.cell? ⟨g, i, none⟩ = some v := by
  simp [World.cell?, h, hv]

theorem look (s : ByteArray) (hs : s.size ≤ maxLen) (k b : Nat) (w : World) (hc : w.cell? ⟨b, 0, none⟩ = some (.string s)) :
    Calls Tryd.prog 89 #[.int .i64 k, .pointer (some ⟨b, 0, none⟩)] w fun e w' => e = .returned (.int .u8 (at_ s.data.toList k)) ∧ w' = w := by
  have hlen : s.data.toList.length = s.size := by cases s; rfl
  by_cases h : k < s.size
  · have hI : (k : Int) < s.size := by omega
    go_enter Tryd.func89, Tryd.ntmps89
    go_wp2
    go_ret
    exact ⟨by simp [at_in h], rfl⟩
  · have hI : (s.size : Int) ≤ k := by omega
    go_enter Tryd.func89, Tryd.ntmps89
    go_wp2
    go_ret
    exact ⟨by rw [at_out (by omega)]; rfl, rfl⟩
end Go.Proofs.YtgjemlhnlpglbaaDoor.Bytes
