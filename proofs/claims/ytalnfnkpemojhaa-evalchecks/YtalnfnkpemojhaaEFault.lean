/-
  P8.1: WHAT STORES ARE REFUSED WITH, plain.
  Conditions: none.
-/
import Derived.Test.YtalnfnkpemojhaaEAreOf
namespace Go.Proofs.Ytalnfnkpemojhaa.EFault
open Go.RowKit ECells EWords EAreOf Trees NSense

def storeFault (U : Nat → UnitD) (C : Nat → CellD) (i : Nat) : Int := if cellsB (U i) (C i) = true then 0 else 8
/-- P8.1 -/
def cellsFault (len : Nat) (U : Nat → UnitD) (n : Nat) (C : Nat → CellD) : Int :=
  if programFault len U = 0 then (if n = len then first (storeFault U C) len else 8) else programFault len U

theorem no_vars {u : UnitD} {C : CellD} (h : (wordsB C.vs C.vl && ((C.vl : Int) == (u.vl : Int))) = false) : cellsB u C = false := decide_eq_false fun h' => by
  rw [h'.2.2.1, h'.1] at h
  simp at h
theorem no_len {u : UnitD} {C : CellD} (h : C.al ≠ u.al) : cellsB u C = false := decide_eq_false fun h' => h h'.2.1
theorem no_arr {u : UnitD} {C : CellD} {k : Nat} (hk : k < u.al) (h : (wordsB (C.an k) (C.ll k) && ((C.ll k : Int) == u.az k)) = false) : cellsB u C = false := decide_eq_false fun h' => by
  have := of_decide_eq_true (h'.2.2.2 k hk)
  rw [this.1, this.2] at h
  simp at h
theorem all_yes {u : UnitD} {C : CellD} (h1 : (wordsB C.vs C.vl && ((C.vl : Int) == (u.vl : Int))) = true) (h2 : C.al = u.al) (h3 : ∀ k, k < u.al → (wordsB (C.an k) (C.ll k) && ((C.ll k : Int) == u.az k)) = true) : cellsB u C = true := by
  rw [Bool.and_eq_true, beq_iff_eq] at h1
  refine decide_eq_true ⟨by omega, h2, h1.1, fun k hk => ?_⟩
  have := h3 k hk
  rw [Bool.and_eq_true, beq_iff_eq] at this
  exact decide_eq_true ⟨this.2, this.1⟩
end Go.Proofs.Ytalnfnkpemojhaa.EFault
