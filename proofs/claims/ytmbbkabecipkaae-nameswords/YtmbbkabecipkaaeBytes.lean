/-
  BYTES OF A TEXT: what package token's letter, digit, lookInto, its closure and runEnd give, and the document's In.
  Conditions: each contract's own hypotheses (the text lies in its cell).
-/
import Derived.Test.YtmbbkabecipkaaeChecked
import Derived.WalkKit
import Derived.ProofKit
import Derived.OpenShut
namespace Go.Proofs.Ytmbbkabecipkaae.Bytes
open Go.RowKit

/-- the byte at a place of a text; 0 behind its end -/
def at_ (l : List UInt8) (k : Nat) : Nat := (l.getD k 0).toNat

theorem at_lt (l : List UInt8) (k : Nat) : at_ l k < 256 := (l.getD k 0).toNat_lt

theorem at_out {l : List UInt8} {k : Nat} (h : l.length ≤ k) : at_ l k = 0 := by
  unfold at_
  rw [List.getD_eq_getElem?_getD, List.getElem?_eq_none h]
  rfl

theorem at_in {s : ByteArray} {k : Nat} (h : k < s.size) : (s[k]'h).toNat = at_ s.data.toList k := by
  obtain ⟨⟨l⟩⟩ := s
  have hl : k < l.length := h
  show (l[k]'hl).toNat = _
  unfold at_
  rw [List.getD_eq_getElem?_getD, List.getElem?_eq_getElem hl]
  rfl

def isLetter (n : Nat) : Bool := decide (97 ≤ n ∧ n ≤ 122)
def isDigit (n : Nat) : Bool := decide (48 ≤ n ∧ n ≤ 57)

/-- where the letters and digits that begin at a place end -/
def endOf (l : List UInt8) (k : Nat) : Nat := k + ((l.drop k).takeWhile fun b => isLetter b.toNat || isDigit b.toNat).length

theorem endOf_next {l : List UInt8} {k : Nat} (h : (isLetter (at_ l k) || isDigit (at_ l k)) = true) : k < l.length ∧ endOf l k = endOf l (k + 1) := by
  have hk : k < l.length := by
    refine Nat.lt_of_not_le fun hle => ?_
    rw [at_out hle] at h
    revert h
    decide
  refine ⟨hk, ?_⟩
  have e : at_ l k = (l[k]'hk).toNat := by unfold at_; rw [List.getD_eq_getElem?_getD, List.getElem?_eq_getElem hk]; rfl
  unfold endOf
  rw [List.drop_eq_getElem_cons hk, List.takeWhile_cons, ← e, if_pos h, List.length_cons]
  omega

theorem endOf_here {l : List UInt8} {k : Nat} (h : (isLetter (at_ l k) || isDigit (at_ l k)) = false) : endOf l k = k := by
  by_cases hk : k < l.length
  · have e : at_ l k = (l[k]'hk).toNat := by unfold at_; rw [List.getD_eq_getElem?_getD, List.getElem?_eq_getElem hk]; rfl
    unfold endOf
    rw [List.drop_eq_getElem_cons hk, List.takeWhile_cons, ← e, if_neg (by rw [h]; decide)]
    rfl
  · unfold endOf
    rw [List.drop_of_length_le (by omega)]
    rfl

theorem endOf_le (l : List UInt8) (k : Nat) (h : k ≤ l.length) : k ≤ endOf l k ∧ endOf l k ≤ l.length := by
  unfold endOf
  have := (List.takeWhile_sublist (fun b : UInt8 => isLetter b.toNat || isDigit b.toNat) (l := l.drop k)).length_le
  rw [List.length_drop] at this
  omega

theorem isLetter_int (n : Nat) : isLetter n = (decide ((97 : Int) ≤ n) && decide ((n : Int) ≤ 122)) := by
  unfold isLetter
  rw [Bool.decide_and, show decide (97 ≤ n) = decide ((97 : Int) ≤ n) from decide_eq_decide.2 (by omega), show decide (n ≤ 122) = decide ((n : Int) ≤ 122) from decide_eq_decide.2 (by omega)]

theorem isDigit_int (n : Nat) : isDigit n = (decide ((48 : Int) ≤ n) && decide ((n : Int) ≤ 57)) := by
  unfold isDigit
  rw [Bool.decide_and, show decide (48 ≤ n) = decide ((48 : Int) ≤ n) from decide_eq_decide.2 (by omega), show decide (n ≤ 57) = decide ((n : Int) ≤ 57) from decide_eq_decide.2 (by omega)]

theorem isIn (n l m : Int) (w : World) :
    Calls Try.prog 17 #[.int .i64 n, .int .i64 l, .int .i64 m] w fun e w' => e = .returned (.bool (decide (l ≤ n ∧ n ≤ m))) ∧ w' = w := by
  by_cases c0 : l ≤ n <;> by_cases c1 : n ≤ m
  all_goals
    go_enter Try.func17, Try.ntmps17
    go_wp2
    go_ret
    exact ⟨by simp [c0, c1], rfl⟩

theorem isIn_yes (n l m : Int) (h : l ≤ n) (h' : n ≤ m) (w : World) : Calls Try.prog 17 #[.int .i64 n, .int .i64 l, .int .i64 m] w fun e w' => e = .returned (.bool true) ∧ w' = w :=
  (isIn n l m w).mono fun e w' ⟨he, hw⟩ => ⟨he.trans (by rw [decide_eq_true ⟨h, h'⟩]), hw⟩

theorem isIn_no (n l m : Int) (h : ¬ (l ≤ n ∧ n ≤ m)) (w : World) : Calls Try.prog 17 #[.int .i64 n, .int .i64 l, .int .i64 m] w fun e w' => e = .returned (.bool false) ∧ w' = w :=
  (isIn n l m w).mono fun e w' ⟨he, hw⟩ => ⟨he.trans (by rw [decide_eq_false h]), hw⟩

theorem cell_of_heap {w : World} {g i : Nat} {cs : Array Value} {t : TypeId} {v : Value} (h : w.heap[g]? = some (.cells cs t)) (hv : cs[i]? = some v) : w.cell? ⟨g, i, none⟩ = some v := by
  simp [World.cell?, h, hv]

end Go.Proofs.Ytmbbkabecipkaae.Bytes
