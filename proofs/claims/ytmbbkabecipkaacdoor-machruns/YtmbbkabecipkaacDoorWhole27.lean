/-
  RunOf, A ROUND: how many words an instruction needs; they are taken.
  Conditions: each theorem's own hypotheses.
-/
import Derived.Test.YtmbbkabecipkaacDoorWhole23
namespace Go.Proofs.YtmbbkabecipkaacDoor.RNeeds
open Go.RowKit Tab Go.Proofs.YtmbbkabecipkaacDoor.Check Lists Go.Proofs.YtmbbkabecipkaacDoor.Read Img Mach Own Go.Proofs.YtmbbkabecipkaacDoor.Inv RunBad RunNot RInv RSlot REnds Take MRun RPart
set_option linter.unusedVariables false


set_option maxRecDepth 1000000 in
set_option maxHeartbeats 4000000 in
theorem needs_ {A : Array Value} {fuel : Int} {bM bR bO : Nat} {vR v19 v20 v21 v22 v23 v24 v25 v28 : Value} {w w1 wr : World} {own : Nat → Tag} {vT vD vC : Value} {G : List (Fr × Nat × Value)} {f : Fr} {b : Nat} {v : Value} {data told : List Int} {C : List (Rec × Value)} {R : Act → World → Prop} {K0 K2 : Act → World → Prop} {R0 : Ending → World → Prop} {r : Int × Int × St} {rm : List Fr} {bi : Nat} {op a_ b_ c_ : Int} (hs : Sl A fuel bM bR bO vR v19 v20 (.pointer (some ⟨bi, 0, none⟩)) (.int .i64 0) v23 v24 v25 v28) (hbi : Block own wr bi #[.int .i64 op, .int .i64 a_, .int .i64 b_, .int .i64 c_] 27 (12, 0)) (h1 : 1 ≤ op) (h15 : op ≤ 15) (hb0 : 0 ≤ b_) (hc0 : 0 ≤ c_)
    (hR : ∀ A', Sl A' fuel bM bR bO vR v19 v20 (.pointer (some ⟨bi, 0, none⟩)) (.int .i64 ((Mach.needs op b_ c_ : Nat) : Int)) v23 v24 v25 v28 → R ⟨A', []⟩ wr) :
    RInv.upto Tryd.prog 1 (RInv.behind 8 (RInv.inside (RInv.behind 1 (((Tryd.f15.body.map RInv.loops).getD []).getD 1 .skip)))) R (Exit.inBlock 3 (Exit.then K0 (Exit.inBlock 2 (Exit.then K2 (bodyPost Tryd.prog Tryd.f15 R0))))) ⟨A, []⟩ wr := by
  obtain ⟨u, rfl⟩ := fold hs
  have c0 := hbi.cell 0 (v := .int .i64 op) rfl
  have c2 := hbi.cell 2 (v := .int .i64 b_) rfl
  have c3 := hbi.cell 3 (v := .int .i64 c_) rfl
  clear hs hbi
  rcases (show op = 1 ∨ op = 2 ∨ op = 3 ∨ op = 4 ∨ op = 5 ∨ op = 6 ∨ op = 7 ∨ op = 8 ∨ op = 9 ∨ op = 10 ∨ op = 11 ∨ op = 12 ∨ op = 13 ∨ op = 14 ∨ op = 15 by omega) with rfl | rfl | rfl | rfl | rfl | rfl | rfl | rfl | rfl | rfl | rfl | rfl | rfl | rfl | rfl
  · have e22 : ((Mach.needs 1 b_ c_ : Nat) : Int) = 0 := by simp [Mach.needs]
    rw [e22] at hR
    have HR : Hid _ := hR
    clear hR e22
    conv => arg 3; whnf
    refine upto_seq ?_
    go_wp2
    exact HR.out _ ⟨rfl, rfl, rfl, rfl, rfl, rfl, rfl, rfl, rfl, rfl, rfl, rfl, rfl, rfl, rfl⟩
  · have e22 : ((Mach.needs 2 b_ c_ : Nat) : Int) = 1 := by simp [Mach.needs]
    rw [e22] at hR
    have HR : Hid _ := hR
    clear hR e22
    conv => arg 3; whnf
    refine upto_seq ?_
    go_wp2
    exact HR.out _ ⟨rfl, rfl, rfl, rfl, rfl, rfl, rfl, rfl, rfl, rfl, rfl, rfl, rfl, rfl, rfl⟩
  · have e22 : ((Mach.needs 3 b_ c_ : Nat) : Int) = 1 := by simp [Mach.needs]
    rw [e22] at hR
    have HR : Hid _ := hR
    clear hR e22
    conv => arg 3; whnf
    refine upto_seq ?_
    go_wp2
    exact HR.out _ ⟨rfl, rfl, rfl, rfl, rfl, rfl, rfl, rfl, rfl, rfl, rfl, rfl, rfl, rfl, rfl⟩
  · have e22 : ((Mach.needs 4 b_ c_ : Nat) : Int) = 0 := by simp [Mach.needs]
    rw [e22] at hR
    have HR : Hid _ := hR
    clear hR e22
    conv => arg 3; whnf
    refine upto_seq ?_
    go_wp2
    exact HR.out _ ⟨rfl, rfl, rfl, rfl, rfl, rfl, rfl, rfl, rfl, rfl, rfl, rfl, rfl, rfl, rfl⟩
  · have e22 : ((Mach.needs 5 b_ c_ : Nat) : Int) = 1 := by simp [Mach.needs]
    rw [e22] at hR
    have HR : Hid _ := hR
    clear hR e22
    conv => arg 3; whnf
    refine upto_seq ?_
    go_wp2
    exact HR.out _ ⟨rfl, rfl, rfl, rfl, rfl, rfl, rfl, rfl, rfl, rfl, rfl, rfl, rfl, rfl, rfl⟩
  · have e22 : ((Mach.needs 6 b_ c_ : Nat) : Int) = 1 := by simp [Mach.needs]
    rw [e22] at hR
    have HR : Hid _ := hR
    clear hR e22
    conv => arg 3; whnf
    refine upto_seq ?_
    go_wp2
    exact HR.out _ ⟨rfl, rfl, rfl, rfl, rfl, rfl, rfl, rfl, rfl, rfl, rfl, rfl, rfl, rfl, rfl⟩
  · have e22 : ((Mach.needs 7 b_ c_ : Nat) : Int) = 2 := by simp [Mach.needs]
    rw [e22] at hR
    have HR : Hid _ := hR
    clear hR e22
    conv => arg 3; whnf
    refine upto_seq ?_
    go_wp2
    exact HR.out _ ⟨rfl, rfl, rfl, rfl, rfl, rfl, rfl, rfl, rfl, rfl, rfl, rfl, rfl, rfl, rfl⟩
  · have e22 : ((Mach.needs 8 b_ c_ : Nat) : Int) = 2 := by simp [Mach.needs]
    rw [e22] at hR
    have HR : Hid _ := hR
    clear hR e22
    conv => arg 3; whnf
    refine upto_seq ?_
    go_wp2
    exact HR.out _ ⟨rfl, rfl, rfl, rfl, rfl, rfl, rfl, rfl, rfl, rfl, rfl, rfl, rfl, rfl, rfl⟩
  · have e22 : ((Mach.needs 9 b_ c_ : Nat) : Int) = 0 := by simp [Mach.needs]
    rw [e22] at hR
    have HR : Hid _ := hR
    clear hR e22
    conv => arg 3; whnf
    refine upto_seq ?_
    go_wp2
    exact HR.out _ ⟨rfl, rfl, rfl, rfl, rfl, rfl, rfl, rfl, rfl, rfl, rfl, rfl, rfl, rfl, rfl⟩
  · have e22 : ((Mach.needs 10 b_ c_ : Nat) : Int) = 1 := by simp [Mach.needs]
    rw [e22] at hR
    have HR : Hid _ := hR
    clear hR e22
    conv => arg 3; whnf
    refine upto_seq ?_
    go_wp2
    exact HR.out _ ⟨rfl, rfl, rfl, rfl, rfl, rfl, rfl, rfl, rfl, rfl, rfl, rfl, rfl, rfl, rfl⟩
  · have e22 : ((Mach.needs 11 b_ c_ : Nat) : Int) = b_ := by simp [Mach.needs]; omega
    rw [e22] at hR
    have HR : Hid _ := hR
    clear hR e22
    conv => arg 3; whnf
    refine upto_seq ?_
    go_wp2
    exact HR.out _ ⟨rfl, rfl, rfl, rfl, rfl, rfl, rfl, rfl, rfl, rfl, rfl, rfl, rfl, rfl, rfl⟩
  · have e22 : ((Mach.needs 12 b_ c_ : Nat) : Int) = c_ := by simp [Mach.needs]; omega
    rw [e22] at hR
    have HR : Hid _ := hR
    clear hR e22
    conv => arg 3; whnf
    refine upto_seq ?_
    go_wp2
    exact HR.out _ ⟨rfl, rfl, rfl, rfl, rfl, rfl, rfl, rfl, rfl, rfl, rfl, rfl, rfl, rfl, rfl⟩
  · have e22 : ((Mach.needs 13 b_ c_ : Nat) : Int) = 1 := by simp [Mach.needs]
    rw [e22] at hR
    have HR : Hid _ := hR
    clear hR e22
    conv => arg 3; whnf
    refine upto_seq ?_
    go_wp2
    exact HR.out _ ⟨rfl, rfl, rfl, rfl, rfl, rfl, rfl, rfl, rfl, rfl, rfl, rfl, rfl, rfl, rfl⟩
  · have e22 : ((Mach.needs 14 b_ c_ : Nat) : Int) = 1 := by simp [Mach.needs]
    rw [e22] at hR
    have HR : Hid _ := hR
    clear hR e22
    conv => arg 3; whnf
    refine upto_seq ?_
    go_wp2
    exact HR.out _ ⟨rfl, rfl, rfl, rfl, rfl, rfl, rfl, rfl, rfl, rfl, rfl, rfl, rfl, rfl, rfl⟩
  · have e22 : ((Mach.needs 15 b_ c_ : Nat) : Int) = 0 := by simp [Mach.needs]
    rw [e22] at hR
    have HR : Hid _ := hR
    clear hR e22
    conv => arg 3; whnf
    refine upto_seq ?_
    go_wp2
    exact HR.out _ ⟨rfl, rfl, rfl, rfl, rfl, rfl, rfl, rfl, rfl, rfl, rfl, rfl, rfl, rfl, rfl⟩
end Go.Proofs.YtmbbkabecipkaacDoor.RNeeds
