/-
  RunOf, ITS PIECES ONE BEHIND ANOTHER; what is taken of the last room's words, as the run lies there behind it.
  Conditions: each theorem's own hypotheses.
-/
import Derived.Test.YtmbbkabecipkaacDoorWhole25
namespace Go.Proofs.YtmbbkabecipkaacDoor.RJoin
open Go.RowKit Tab Go.Proofs.YtmbbkabecipkaacDoor.Check Lists Go.Proofs.YtmbbkabecipkaacDoor.Read Img Mach Own Go.Proofs.YtmbbkabecipkaacDoor.Inv RunBad RunNot RInv RSlot REnds Take MRun RPart RTake RFinish

theorem behind_skip : ∀ m, RInv.behind m .skip = .skip
  | 0 => rfl
  | _ + 1 => rfl

theorem behind_behind : ∀ (n m : Nat) (c : Code), RInv.behind m (RInv.behind n c) = RInv.behind (n + m) c
  | 0, m, c => by rw [Nat.zero_add]; rfl
  | n + 1, m, c => by
    rw [show n + 1 + m = (n + m) + 1 by omega]
    cases c with
    | seq x y => exact behind_behind n m y
    | _ => exact behind_skip m

/-- the next m pieces, and then the rest -/
theorem piece {P : Program} {n : Nat} (m : Nat) {c : Code} {Q : Exit → Act → World → Prop} {a : Act} {w : World} (h : RInv.upto P m (RInv.behind n c) (fun a w => (RInv.behind (n + m) c).wp P Q a w) Q a w) : (RInv.behind n c).wp P Q a w :=
  RInv.upto_wp m (RInv.behind n c) (fun a w h => by rw [behind_behind]; exact h) h

/-- behind 'taken': the room has fewer words, those that were taken lie in a row of their own -/
theorem taken_inv {own : Nat → Tag} {w1 wr W1 W2 : World} {bO b : Nat} {vR vT vD vC v v' vl : Value} {f : Fr} {G : List (Fr × Nat × Value)} {data told : List Int} {C : List (Rec × Value)} {l ws : List Int}
    (h : RInv own w1 wr bO vR vT vD vC ((f, b, v) :: G) data told C) (f1 : Fresh wr W1 vl l) (f2 : Fresh W1 W2 v' ws) :
    ∃ own', RInv own' w1 (W2.setCell ⟨b, 10, none⟩ v') bO vR vT vD vC (({ f with words := ws }, b, v') :: G) data told C ∧ Owned own' (W2.setCell ⟨b, 10, none⟩ v') 3 1 vl l.length (ints l) (13, 0) ∧
      (∀ g cs e t, Block own wr g cs e (t + 9, 0) → Block own' (W2.setCell ⟨b, 10, none⟩ v') g cs e (t + 9, 0)) := by
  have m1 : Moves own (also own wr.heap.size (13, 0)) wr W1 (9, 9) := Moves.below f1.below (fun k hk => by unfold also; rw [if_neg (by omega)]) _
  have h1 := h.moves (n := 0) (m := 9) m1
  have o1 := f1.owned own (13, 0)
  obtain ⟨own1, e1⟩ : ∃ o, o = also own wr.heap.size (13, 0) := ⟨_, rfl⟩
  rw [← e1] at m1 h1 o1
  have m2 : Moves own1 (also own1 W1.heap.size (6, G.length)) W1 W2 (6, G.length) := Moves.below f2.below (fun k hk => by unfold also; rw [if_neg (by omega)]) _
  have h2 := h1.words_set m2 (f2.owned own1 (6, G.length))
  have hb0 := h1.rooms.1.1.moves m2 (by simp)
  have m3 := Moves.setCell (also own1 W1.heap.size (6, G.length)) W2 b 10 v' hb0.tag
  exact ⟨_, h2, (o1.moves m2 (by simp)).moves m3 (by simp), fun g cs e t hB => ((hB.moves m1 (by simp)).moves m2 (by simp)).moves m3 (by simp)⟩
end Go.Proofs.YtmbbkabecipkaacDoor.RJoin
