/-
  RunOf, A ROUND FROM ITS SWITCH ON: Call, Gate.
  Conditions: each theorem's own hypotheses.
  RunOf, A ROUND: from a run that lies there to the plain machine's next step, or to its end.
  Conditions: each theorem's own hypotheses.
  RunOf's LOOP: from its first round to what the plain machine gives.
  Conditions: each theorem's own hypotheses.
-/
import Derived.Test.YtmbbkabecipkaacDoorWhole28
import Derived.Test.YtmbbkabecipkaacDoorWhole39
import Derived.Test.YtmbbkabecipkaacDoorWhole40
import Derived.Test.YtmbbkabecipkaacDoorWhole41
import Derived.Test.YtmbbkabecipkaacDoorWhole42
import Derived.Test.YtmbbkabecipkaacDoorWhole43
import Derived.Test.YtmbbkabecipkaacDoorWhole44
import Derived.Test.YtmbbkabecipkaacDoorWhole45
import Derived.Test.YtmbbkabecipkaacDoorWhole47
import Derived.Test.YtmbbkabecipkaacDoorWhole48
import Derived.Test.YtmbbkabecipkaacDoorWhole33
import Derived.Test.YtmbbkabecipkaacDoorWhole35
import Derived.Test.YtmbbkabecipkaacDoorWhole38
namespace Go.Proofs.YtmbbkabecipkaacDoor.RSwD
open Go.RowKit Tab Go.Proofs.YtmbbkabecipkaacDoor.Check Lists Go.Proofs.YtmbbkabecipkaacDoor.Read Img Mach Own Go.Proofs.YtmbbkabecipkaacDoor.Inv RunBad RunNot RInv RSlot REnds Take MRun RPart RTake RFinish RJoin RFront RBack ActQ RMet
set_option linter.unusedVariables false

/-- words that were taken, however many -/
theorem any {own : Nat → Tag} {W : World} {vl : Value} {l : List Int} (h : Owned own W 3 1 vl l.length (ints l) (13, 0)) : ∃ al cl_, vl = .slice al l.length cl_ ∧ (∀ ad, al = some ad → own ad.block = (13, 0)) ∧ (0 < l.length → ∃ ad : Addr, al = some ad ∧ ad.block < W.heap.size ∧ ∀ j u, (ints l)[j]? = some u → W.cell? (ad.add j) = some u) := by
  rcases h.row.2 with ⟨rfl, h0⟩ | ⟨g, cap, cur, rfl, hb, hh, _⟩
  · exact ⟨none, 0, by rw [h0], fun ad e => (by cases e), fun hp => by omega⟩
  · refine ⟨_, _, rfl, fun ad e => ?_, fun _ => ⟨_, rfl, (Array.getElem?_eq_some_iff.1 hh).1, h.row.cells (g := g) rfl⟩⟩
    cases e
    exact h.tag g rfl

theorem call {A : Array Value} {fuel : Int} {bM bR bO b bp bi : Nat} {vR v22 v23 vl v25 v28 v vT vD vC : Value} {w w1 W : World} {own : Nat → Tag} {G : List (Fr × Nat × Value)} {f : Fr} {data told l : List Int} {C : List (Rec × Value)} {K0 K2 : Act → World → Prop} {R0 : Ending → World → Prop} {rm : List Fr} {ao : Option Addr} {len cap dlen : Nat} {P : Nat → PartD} {a b_ c_ : Int} (M : Met w w1 W own A fuel bM bR bO b bp bi vR v22 v23 vl v25 v28 vT vD vC v f G data told C l ao len cap dlen P 11 a b_ c_) (N : Ahead w w1 fuel bM bR bO K0 R0 (Mach.act wdoT P len ⟨rm, data, told, C.map Prod.fst⟩ f (G.map Prod.fst) 11 a b_ c_ l)) :
    Code.wp Tryd.prog (RInv.behind 13 (RInv.inside (RInv.behind 1 (((Tryd.f15.body.map RInv.loops).getD []).getD 1 .skip)))) (Exit.inBlock 3 (Exit.then K0 (Exit.inBlock 2 (Exit.then K2 (bodyPost Tryd.prog Tryd.f15 R0))))) ⟨A, []⟩ W := by
  obtain ⟨_, ⟨a0, a1⟩, ⟨b0, b1⟩, ⟨c0, c1⟩⟩ := fault_zero M.fault
  obtain ⟨gR, cR, e, htR, hcR, _⟩ := M.inv.row.form (by simp)
  simp only [List.length_cons] at e hcR
  subst e
  have hd := M.depth
  obtain ⟨al, cl_, rfl, hal, hsrc⟩ := any M.lies
  have hq : W.cell? ⟨b, 0, none⟩ = some (.int .i64 f.part) := M.inv.rooms.1.1.cell 0 rfl
  obtain ⟨j, rfl⟩ : ∃ j : Nat, a = j := ⟨a.toNat, by simp [row, rows] at a0; omega⟩
  have hl4 : l.length ≤ 4 := by rw [M.many]; simp [needs, row, rows] at b1 ⊢; omega
  rw [show Mach.act wdoT P len ⟨rm, data, told, C.map Prod.fst⟩ f (G.map Prod.fst) 11 j b_ c_ l = enter ⟨rm, data, told, C.map Prod.fst⟩ f (G.map Prod.fst) { part := f.part, pc := j, locals := pad l, words := [], noted := none } by simp [Mach.act]] at N
  refine piece 2 ?_
  by_cases hdp : G.length + 1 < 20
  · refine RArmF.call_ok (vR := vT) (v := v) (w := w) (f := f) (r := (0, 0, ⟨rm, data, told, C.map Prod.fst⟩)) (rm := rm) (gl := 0) (v19 := v25) (v20 := v25) (v21 := v25) (v24 := v25) (G := (f, b, v) :: G) M.sl M.bi rfl hq rfl hl4 hsrc hdp rfl M.inv fun A2 own2 W2 v2 bg hs2 h2 => ?_
    exact enter_back (by rw [enter, if_pos (by simpa using hdp)]) rfl N hs2 h2 M.words
  · have e : G.length + 1 = 20 := by omega
    have hsl := M.sl
    rw [e] at hsl
    exact RArmG.call_deep (vR := vT) (f := f) (v := v) (v19 := v25) (v20 := v25) (v21 := v25) (gl := 0) (cl_ := 0) hsl M.bi rfl hq M.inv M.begun rfl (N.ends _ _ _ (by rw [enter, if_neg (by simpa using hdp)]; rfl))

theorem gate {A : Array Value} {fuel : Int} {bM bR bO b bp bi : Nat} {vR v22 v23 vl v25 v28 v vT vD vC : Value} {w w1 W : World} {own : Nat → Tag} {G : List (Fr × Nat × Value)} {f : Fr} {data told l : List Int} {C : List (Rec × Value)} {K0 K2 : Act → World → Prop} {R0 : Ending → World → Prop} {rm : List Fr} {ao : Option Addr} {len cap dlen : Nat} {P : Nat → PartD} {a b_ c_ : Int} (M : Met w w1 W own A fuel bM bR bO b bp bi vR v22 v23 vl v25 v28 vT vD vC v f G data told C l ao len cap dlen P 12 a b_ c_) (N : Ahead w w1 fuel bM bR bO K0 R0 (Mach.act wdoT P len ⟨rm, data, told, C.map Prod.fst⟩ f (G.map Prod.fst) 12 a b_ c_ l)) :
    Code.wp Tryd.prog (RInv.behind 13 (RInv.inside (RInv.behind 1 (((Tryd.f15.body.map RInv.loops).getD []).getD 1 .skip)))) (Exit.inBlock 3 (Exit.then K0 (Exit.inBlock 2 (Exit.then K2 (bodyPost Tryd.prog Tryd.f15 R0))))) ⟨A, []⟩ W := by
  obtain ⟨_, ⟨a0, a1⟩, ⟨b0, b1⟩, ⟨c0, c1⟩⟩ := fault_zero M.fault
  obtain ⟨gR, cR, e, htR, hcR, _⟩ := M.inv.row.form (by simp)
  simp only [List.length_cons] at e hcR
  subst e
  have hd := M.depth
  obtain ⟨al, cl_, rfl, hal, hsrc⟩ := any M.lies
  have hq : W.cell? ⟨b, 0, none⟩ = some (.int .i64 f.part) := M.inv.rooms.1.1.cell 0 rfl
  obtain ⟨k, rfl⟩ : ∃ k : Nat, a = k := ⟨a.toNat, by simp [row, rows] at a0; omega⟩
  obtain ⟨i_, rfl⟩ : ∃ k : Nat, b_ = k := ⟨b_.toNat, by omega⟩
  have hl4 : l.length ≤ 4 := by rw [M.many]; simp [needs, row, rows] at c1 ⊢; omega
  obtain ⟨hPs, hM⟩ := M.sure.img W M.inv.base.below
  have hl5 := M.sure.len5
  refine piece 2 ?_
  by_cases hgo : (k : Int) < len ∧ (i_ : Int) < (P k).el ∧ (P k).prs i_ = c_
  · obtain ⟨hk, hi, hp⟩ := id hgo
    have hk' : k < len := by omega
    have hi' : i_ < (P k).el := by omega
    obtain ⟨⟨bl, off, rfl, _, hE, _, _⟩, _, hEs⟩ := hPs k hk'
    obtain ⟨b2, o2, eE, hP0, hP⟩ := hEs i_ hi'
    rw [eE] at hE
    rw [hp] at hP
    have hen := M.sure.entries k hk' i_ hi'
    obtain ⟨ta, eta⟩ : ∃ t : Nat, (P k).ats i_ = t := ⟨((P k).ats i_).toNat, by omega⟩
    rw [eta] at hP0
    have hel := M.sure.el8 k hk'
    by_cases hC : C.length < 100
    · have hgo2 : C.length < 100 := hC
      rw [show Mach.act wdoT P len ⟨rm, data, told, C.map Prod.fst⟩ f (G.map Prod.fst) 12 k i_ c_ l = enter ⟨rm, data, told, C.map Prod.fst ++ [{ by_ := f.part, part := k, entry := i_, args := l, deep := G.length + 1, done := false, value := 0 }]⟩ f (G.map Prod.fst) { part := k, pc := ta, locals := pad l, words := [], noted := some C.length } by
        unfold Mach.act
        rw [if_neg (by decide), if_neg (by decide), if_neg (by decide), if_neg (by decide), if_neg (by decide), if_neg (by decide), if_neg (by decide), if_neg (by decide), if_neg (by decide), if_neg (by decide), if_neg (by decide), if_pos rfl]
        simp [hk, hi, hp, hC, eta]] at N
      have hbt : own b ≠ (1, 0) ∧ own b ≠ (5, 0) := by rw [M.inv.rooms.1.1.tag]; simp
      have hst : ∀ ad, al = some ad → own ad.block ≠ (1, 0) ∧ own ad.block ≠ (5, 0) := fun ad e => by rw [hal ad e]; simp
      by_cases hdp : G.length + 1 < 20
      · refine RArmM.gate_noted (vR := vT) (v := v) (w := w) (f := f) (r := (0, 0, ⟨rm, data, told, C.map Prod.fst⟩)) (rm := rm) (gl := 0) (v19 := v25) (v20 := v25) (v21 := v25) (v24 := v25) (G := (f, b, v) :: G) M.sl M.bi rfl rfl hq hM hl5 hk' hE hel hi' hP0 hP hC hbt hst rfl hl4 hsrc hdp rfl M.inv fun A2 own2 W2 v2 bg vC2 va hs2 h2 => ?_
        exact enter_back (by rw [enter, if_pos (by simpa using hdp)]) (by simp) N hs2 h2 M.words
      · exact RArmN.gate_noted_deep (vR := vT) (v := v) (f := f) (gl := 0) (v19 := v25) (v20 := v25) (v21 := v25) (v24 := v25) M.sl M.bi rfl rfl hq hM hl5 hk' hE hel hi' hP0 hP hC hbt hst rfl hl4 hsrc (by omega) M.inv M.begun rfl (N.ends _ _ _ (by rw [enter, if_neg (by simpa using hdp)]; rfl))
    · have hC' : C.length = 100 := by have := M.calls; omega
      rw [show Mach.act wdoT P len ⟨rm, data, told, C.map Prod.fst⟩ f (G.map Prod.fst) 12 k i_ c_ l = enter ⟨rm, data, told, C.map Prod.fst⟩ f (G.map Prod.fst) { part := k, pc := ta, locals := pad l, words := [], noted := none } by
        unfold Mach.act
        rw [if_neg (by decide), if_neg (by decide), if_neg (by decide), if_neg (by decide), if_neg (by decide), if_neg (by decide), if_neg (by decide), if_neg (by decide), if_neg (by decide), if_neg (by decide), if_neg (by decide), if_pos rfl]
        simp [hk, hi, hp, hC', eta]] at N
      by_cases hdp : G.length + 1 < 20
      · refine RArmK.gate_full (vR := vT) (v := v) (w := w) (f := f) (r := (0, 0, ⟨rm, data, told, C.map Prod.fst⟩)) (rm := rm) (gl := 0) (v19 := v25) (v20 := v25) (v21 := v25) (v24 := v25) (G := (f, b, v) :: G) M.sl M.bi rfl rfl hq hM hl5 hk' hE hel hi' hP0 hP hC' rfl hl4 hsrc hdp rfl M.inv fun A2 own2 W2 v2 bg hs2 h2 => ?_
        exact enter_back (by rw [enter, if_pos (by simpa using hdp)]) rfl N hs2 h2 M.words
      · have e : G.length + 1 = 20 := by omega
        have hsl := M.sl
        rw [e] at hsl
        exact RArmL.gate_full_deep (vR := vT) (v := v) (f := f) (gl := 0) (cl_ := 0) (v19 := v25) (v20 := v25) (v21 := v25) hsl M.bi rfl rfl hq hM hl5 hk' hE hel hi' hP0 hP hC' M.inv M.begun rfl (N.ends _ _ _ (by rw [enter, if_neg (by simpa using hdp)]; rfl))
  · rw [show Mach.act wdoT P len ⟨rm, data, told, C.map Prod.fst⟩ f (G.map Prod.fst) 12 k i_ c_ l = ends 4 0 ⟨rm, data, told, C.map Prod.fst⟩ by
      unfold Mach.act
      rw [if_neg (by decide), if_neg (by decide), if_neg (by decide), if_neg (by decide), if_neg (by decide), if_neg (by decide), if_neg (by decide), if_neg (by decide), if_neg (by decide), if_neg (by decide), if_neg (by decide), if_pos rfl]
      rw [if_neg (by simpa using hgo)]] at N
    have hE4 := N.ends _ _ _ rfl
    by_cases hk : k < len
    · obtain ⟨⟨bl, off, rfl, _, hE, _, _⟩, _, hEs⟩ := hPs k hk
      have hel := M.sure.el8 k hk
      by_cases hi : i_ < (P k).el
      · obtain ⟨b2, o2, eE, hP0, hP⟩ := hEs i_ hi
        rw [eE] at hE
        have hpc : (P k).prs i_ < c_ ∨ c_ < (P k).prs i_ := by
          have : (P k).prs i_ ≠ c_ := fun e => hgo ⟨by omega, by omega, e⟩
          omega
        exact RArmJ.gate_count (vR := vT) (v := v) (f := f) (gl := 0) (cl_ := 0) (v19 := v25) (v20 := v25) (v21 := v25) M.sl M.bi rfl rfl hq hM hl5 hk hE hel hi hP hpc M.inv M.begun rfl hE4
      · exact RArmI.gate_entry (vR := vT) (v := v) (f := f) (gl := 0) (cl_ := 0) (v19 := v25) (v20 := v25) (v21 := v25) M.sl M.bi rfl rfl hq hM hl5 hk hE hel (by omega) M.inv M.begun rfl hE4
    · exact RArmH.gate_none (vR := vT) (v := v) (f := f) (gl := 0) (cl_ := 0) (v19 := v25) (v20 := v25) (v21 := v25) M.sl M.bi rfl rfl hq hM hl5 (by omega) M.inv M.begun rfl hE4
end Go.Proofs.YtmbbkabecipkaacDoor.RSwD

namespace Go.Proofs.YtmbbkabecipkaacDoor.RRound
open Go.RowKit Tab Go.Proofs.YtmbbkabecipkaacDoor.Check Lists Go.Proofs.YtmbbkabecipkaacDoor.Read Img Mach Own Go.Proofs.YtmbbkabecipkaacDoor.Inv RunBad RunNot RInv RSlot REnds Take MRun RPart RTake RFinish RJoin RFront RBack ActQ RMet
set_option linter.unusedVariables false

theorem switch {A : Array Value} {fuel : Int} {bM bR bO b bp bi : Nat} {vR v22 v23 vl v25 v28 v vT vD vC : Value} {w w1 W : World} {own : Nat → Tag} {G : List (Fr × Nat × Value)} {f : Fr} {data told l : List Int} {C : List (Rec × Value)} {K0 K2 : Act → World → Prop} {R0 : Ending → World → Prop} {rm : List Fr} {ao : Option Addr} {len cap dlen : Nat} {P : Nat → PartD} {op a b_ c_ : Int} (M : Met w w1 W own A fuel bM bR bO b bp bi vR v22 v23 vl v25 v28 vT vD vC v f G data told C l ao len cap dlen P op a b_ c_) (N : Ahead w w1 fuel bM bR bO K0 R0 (Mach.act wdoT P len ⟨rm, data, told, C.map Prod.fst⟩ f (G.map Prod.fst) op a b_ c_ l)) :
    Code.wp Tryd.prog (RInv.behind 13 (RInv.inside (RInv.behind 1 (((Tryd.f15.body.map RInv.loops).getD []).getD 1 .skip)))) (Exit.inBlock 3 (Exit.then K0 (Exit.inBlock 2 (Exit.then K2 (bodyPost Tryd.prog Tryd.f15 R0))))) ⟨A, []⟩ W := by
  obtain ⟨⟨o1, o15⟩, _⟩ := fault_zero M.fault
  rcases (show op = 1 ∨ op = 2 ∨ op = 3 ∨ op = 4 ∨ op = 5 ∨ op = 6 ∨ op = 7 ∨ op = 8 ∨ op = 9 ∨ op = 10 ∨ op = 11 ∨ op = 12 ∨ op = 13 ∨ op = 14 ∨ op = 15 by omega) with rfl | rfl | rfl | rfl | rfl | rfl | rfl | rfl | rfl | rfl | rfl | rfl | rfl | rfl | rfl
  · exact RSwA.push M N
  · exact RSwA.drop M N
  · exact RSwA.dup M N
  · exact RSwA.get M N
  · exact RSwA.put_ M N
  · exact RSwB.load M N
  · exact RSwB.store M N
  · exact RSwA.do_ M N
  · exact RSwA.jump M N
  · exact RSwA.jz M N
  · exact RSwD.call M N
  · exact RSwD.gate M N
  · match hno : f.noted with
    | none => exact RSwC.ret_none M N hno
    | some k => exact RSwC.ret_some M N hno
  · exact RSwB.tell M N
  · exact RSwA.trap M N

/-- no place is behind the longest code -/
def Places (s : St) : Prop := ∀ f ∈ s.rooms, f.pc ≤ 1200

theorem needs_four {op a b c : Int} (h : fault op a b c = 0) : needs op b c ≤ 4 := by
  obtain ⟨⟨o1, o15⟩, _, ⟨b0, b1⟩, ⟨c0, c1⟩⟩ := fault_zero h
  unfold needs
  split
  · omega
  · split
    · omega
    · split
      · rename_i e
        subst e
        simp [row, rows] at b1
        omega
      · split
        · rename_i e
          subst e
          simp [row, rows] at c1
          omega
        · omega

set_option maxRecDepth 100000 in
set_option maxHeartbeats 1000000 in
/-- one round: fuel is there, or not -/
theorem round {A : Array Value} {n : Nat} {bM bR bO : Nat} {vR v19 v20 v21 v22 v23 v24 v25 v28 vT vD vC : Value} {w w1 W : World} {own : Nat → Tag} {G : List (Fr × Nat × Value)} {data told : List Int} {C : List (Rec × Value)} {K0 K2 : Act → World → Prop} {R0 : Ending → World → Prop} {ao : Option Addr} {len cap dlen : Nat} {P : Nat → PartD}
    (hs : Sl A n bM bR bO vR v19 v20 v21 v22 v23 v24 v25 v28) (h : RInv own w1 W bO vR vT vD vC G data told C) (hn : n ≤ 100000) (hS : RSure w1 bM ao len cap dlen P) (hhi : ∀ k, k < len → 0 ≤ (P k).hi) (hT : Begun w w1 bR) (hfit : Fit len ⟨G.map Prod.fst, data, told, C.map Prod.fst⟩) (hpl : Places ⟨G.map Prod.fst, data, told, C.map Prod.fst⟩) (hdl : data.length = dlen ∧ dlen ≤ 250)
    (hR0 : R0 = Gave w (run wdoT P len n ⟨G.map Prod.fst, data, told, C.map Prod.fst⟩))
    (hgo : ∀ m s, n = m + 1 → Mach.step wdoT P len ⟨G.map Prod.fst, data, told, C.map Prod.fst⟩ = .inr s → ∀ A own W vR v19 v20 v21 v22 v23 v24 v25 v28 vT vD vC G C, Sl A m bM bR bO vR v19 v20 v21 v22 v23 v24 v25 v28 → RInv own w1 W bO vR vT vD vC G s.data s.told C → G.map Prod.fst = s.rooms → C.map Prod.fst = s.calls → K0 ⟨A, []⟩ W) :
    Code.wp Tryd.prog (RInv.inside (RInv.behind 1 (((Tryd.f15.body.map RInv.loops).getD []).getD 1 .skip))) (Exit.inBlock 3 (Exit.then K0 (Exit.inBlock 2 (Exit.then K2 (bodyPost Tryd.prog Tryd.f15 R0))))) ⟨A, []⟩ W := by
  rcases G with _ | ⟨⟨f, b, v⟩, G⟩
  · exact absurd rfl hfit.room
  cases n with
  | zero => exact REarly.spent (fuel := 0) (f := f) (b := b) (v := v) hs h hT rfl hR0
  | succ n =>
    have hf := hfit.fr f (List.mem_cons_self ..)
    have hG : G.length < 20 := by have := hfit.few; simp at this; omega
    have hpf : f.pc ≤ 1200 := hpl f (List.mem_cons_self ..)
    have hstep : ∀ o, Mach.step wdoT P len ⟨((f, b, v) :: G).map Prod.fst, data, told, C.map Prod.fst⟩ = o → Ahead w w1 (((n + 1 : Nat) : Int) - 1) bM bR bO K0 R0 o := by
      intro o ho
      refine ⟨fun e x s he => ?_, fun s he => ?_⟩
      · rw [hR0, run_ends (ho.trans he)]
      · rw [show (((n + 1 : Nat) : Int) - 1) = (n : Int) by omega]
        exact hgo n s rfl (ho.trans he)
    by_cases hpc : f.pc < (P f.part).cl
    · have hfa := hS.code _ hf.1 _ hpc
      obtain ⟨hop, _, ⟨hb0, _⟩, ⟨hc0, _⟩⟩ := fault_zero hfa
      have hn4 := needs_four hfa
      by_cases hfew : needs ((P f.part).o f.pc) ((P f.part).b f.pc) ((P f.part).c f.pc) ≤ f.words.length
      · refine RFront.front (w := w) (r := (0, 0, ⟨[], data, told, C.map Prod.fst⟩)) (rm := []) hs h hG (by omega) (by omega) hS hf.1 hpc hf.2.1 hop hb0 hc0 hn4 hfew fun A' own' W' bp bi v' vl hs' h' hbp hbi hol => ?_
        refine switch (rm := (((f, b, v) :: G).map Prod.fst)) (w := w) (ao := ao) (len := len) (cap := cap) (dlen := dlen) (P := P) (l := f.words.drop (f.words.length - needs ((P f.part).o f.pc) ((P f.part).b f.pc) ((P f.part).c f.pc))) ⟨hs', h', hbp, hbi, hol, hS, hT, hf.1, hhi _ hf.1, ?_, hG, ?_, ?_, ?_, hfit.told, hdl, hfa, ?_⟩ (hstep _ ?_)
        · simp only [List.length_take]; have := hf.2.1; omega
        · intro g hg
          exact (hfit.fr g.1 (List.mem_cons_of_mem _ (List.mem_map_of_mem hg))).2.1
        · intro k hk
          have := hf.2.2 k hk
          simpa using this
        · simpa using hfit.calls
        · rw [List.length_drop]; omega
        · simp only [List.map_cons, Mach.step, if_pos hpc, if_pos hfew]
      · exact REarly.few hs h hG (by omega) (by omega) hS hf.1 hpc hf.2.1 hop hb0 hc0 hn4 hfew hT rfl ((hstep (.inl (4, 0, ⟨((f, b, v) :: G).map Prod.fst, data, told, C.map Prod.fst⟩)) (by simp only [List.map_cons, Mach.step, if_pos hpc, if_neg hfew, ends])).ends _ _ _ rfl)
    · exact REarly.off hs h hG (by omega) (by omega) hS hf.1 hpc hpf hT rfl ((hstep (.inl (4, 0, ⟨((f, b, v) :: G).map Prod.fst, data, told, C.map Prod.fst⟩)) (by simp only [List.map_cons, Mach.step, if_neg hpc, ends])).ends _ _ _ rfl)
end Go.Proofs.YtmbbkabecipkaacDoor.RRound

namespace Go.Proofs.YtmbbkabecipkaacDoor.RLoop
open Go.RowKit Tab Go.Proofs.YtmbbkabecipkaacDoor.Check Lists Go.Proofs.YtmbbkabecipkaacDoor.Read Img Mach Own Go.Proofs.YtmbbkabecipkaacDoor.Inv RunBad RunNot RInv RSlot REnds Take MRun RPart RTake RFinish RJoin RFront RBack ActQ StepQ RMet RRound
set_option linter.unusedVariables false

set_option maxRecDepth 1000000 in
set_option maxHeartbeats 4000000 in
/-- no end yet: the round begins -/
theorem asked {A : Array Value} {fuel : Int} {bM bR bO : Nat} {vR v19 v20 v21 v22 v23 v24 v25 v28 : Value} {w1 wr : World} {own : Nat → Tag} {vT vD vC : Value} {G : List (Fr × Nat × Value)} {data told : List Int} {C : List (Rec × Value)} {R K0 K2 : Act → World → Prop} {R0 : Ending → World → Prop} (hs : Sl A fuel bM bR bO vR v19 v20 v21 v22 v23 v24 v25 v28) (h : RInv own w1 wr bO vR vT vD vC G data told C)
    (hR : ∀ A', Sl A' fuel bM bR bO vR v19 v20 v21 v22 v23 v24 v25 v28 → R ⟨A', []⟩ wr) :
    RInv.upto Tryd.prog 1 (((Tryd.f15.body.map RInv.loops).getD []).getD 1 .skip) R (Exit.then K0 (Exit.inBlock 2 (Exit.then K2 (bodyPost Tryd.prog Tryd.f15 R0)))) ⟨A, []⟩ wr := by
  obtain ⟨u, rfl⟩ := fold hs
  have q0 := h.out.cell 0 (v := .int .i64 0) rfl
  have HR : Hid _ := hR
  clear hR h hs
  conv => arg 3; whnf
  refine upto_seq ?_
  go_wp2
  exact HR.out _ ⟨rfl, rfl, rfl, rfl, rfl, rfl, rfl, rfl, rfl, rfl, rfl, rfl, rfl, rfl, rfl⟩

theorem block3 : RInv.behind 1 (((Tryd.f15.body.map RInv.loops).getD []).getD 1 .skip) = .block 3 (RInv.inside (RInv.behind 1 (((Tryd.f15.body.map RInv.loops).getD []).getD 1 .skip))) := by kernel_rfl

theorem puts_places {s s' : St} {f : Fr} {rest : List Fr} {back : List Int} (h : puts s f rest back = .inr s') (hf : f.pc ≤ 1200) (hr : ∀ g ∈ rest, g.pc ≤ 1200) : Places s' := by
  unfold puts at h
  split at h
  · injection h with h
    subst h
    intro g hg
    rcases List.mem_cons.1 hg with rfl | hg
    · exact hf
    · exact hr g hg
  · cases h

theorem enter_places {s s' : St} {f g : Fr} {rest : List Fr} (h : enter s f rest g = .inr s') (hf : f.pc ≤ 1200) (hr : ∀ g ∈ rest, g.pc ≤ 1200) (hg : g.pc ≤ 1200) : Places s' := by
  unfold enter at h
  split at h
  · injection h with h
    subst h
    intro x hx
    rcases List.mem_cons.1 hx with rfl | hx
    · exact hg
    · rcases List.mem_cons.1 hx with rfl | hx
      · exact hf
      · exact hr x hx
  · cases h

theorem act_places {wdo : Int → Int → Int → Int} {P : Nat → PartD} {len : Nat} {s s' : St} {f : Fr} {rest : List Fr} {op a b c : Int} {l : List Int} (h : Mach.act wdo P len s f rest op a b c l = .inr s') (hf : f.pc ≤ 1200) (hr : ∀ g ∈ rest, g.pc ≤ 1200) (hfa : fault op a b c = 0)
    (hcl : ∀ k, k < len → (P k).cl ≤ 1200) (hen : ∀ k, k < len → ∀ j, j < (P k).el → (0 ≤ (P k).ats j ∧ (P k).ats j < (P k).cl) ∧ (0 ≤ (P k).prs j ∧ (P k).prs j ≤ 4)) : Places s' := by
  obtain ⟨⟨o1, o15⟩, ⟨a0, a1⟩, ⟨b0, b1⟩, _⟩ := fault_zero hfa
  rcases (show op = 1 ∨ op = 2 ∨ op = 3 ∨ op = 4 ∨ op = 5 ∨ op = 6 ∨ op = 7 ∨ op = 8 ∨ op = 9 ∨ op = 10 ∨ op = 11 ∨ op = 12 ∨ op = 13 ∨ op = 14 ∨ op = 15 by omega) with rfl | rfl | rfl | rfl | rfl | rfl | rfl | rfl | rfl | rfl | rfl | rfl | rfl | rfl | rfl
  · exact puts_places (s := s) (f := f) (back := [a]) (by simpa [Mach.act] using h) hf hr
  · exact puts_places (s := s) (f := f) (back := []) (by simpa [Mach.act] using h) hf hr
  · exact puts_places (s := s) (f := f) (back := [l.getD 0 0, l.getD 0 0]) (by simpa [Mach.act] using h) hf hr
  · exact puts_places (s := s) (f := f) (back := [f.locals.getD a.toNat 0]) (by simpa [Mach.act] using h) hf hr
  · exact puts_places (s := s) (f := { f with locals := f.locals.set a.toNat (l.getD 0 0) }) (back := []) (by simpa [Mach.act] using h) hf hr
  · have h' : (if (P f.part).lo ≤ l.getD 0 0 ∧ l.getD 0 0 < (P f.part).hi then puts s f rest [s.data.getD (l.getD 0 0).toNat 0] else ends 4 0 s) = .inr s' := h
    split at h'
    · exact puts_places h' hf hr
    · cases h'
  · have h' : (if (P f.part).lo ≤ l.getD 0 0 ∧ l.getD 0 0 < (P f.part).hi then puts { s with data := s.data.set (l.getD 0 0).toNat (l.getD 1 0) } f rest [] else ends 4 0 s) = .inr s' := h
    split at h'
    · exact puts_places h' hf hr
    · cases h'
  · exact puts_places (s := s) (f := f) (back := [wdo a (l.getD 0 0) (l.getD 1 0)]) (by simpa [Mach.act] using h) hf hr
  · have h' : puts s { f with pc := a.toNat } rest [] = .inr s' := h
    exact puts_places h' (by simp [row, rows] at a1; show a.toNat ≤ 1200; omega) hr
  · have h' : puts s (if l.getD 0 0 = 0 then { f with pc := a.toNat } else f) rest [] = .inr s' := h
    split at h'
    · exact puts_places h' (by simp [row, rows] at a1; show a.toNat ≤ 1200; omega) hr
    · exact puts_places h' hf hr
  · have h' : enter s f rest { part := f.part, pc := a.toNat, locals := pad l, words := [], noted := none } = .inr s' := h
    exact enter_places h' hf hr (by simp [row, rows] at a1; show a.toNat ≤ 1200; omega)
  · have h' : (if a < len ∧ b < (P a.toNat).el ∧ (P a.toNat).prs b.toNat = c then
      if s.calls.length < 100 then
        enter { s with calls := s.calls ++ [{ by_ := f.part, part := a.toNat, entry := b.toNat, args := l, deep := rest.length + 1, done := false, value := 0 }] } f rest
          { part := a.toNat, pc := ((P a.toNat).ats b.toNat).toNat, locals := pad l, words := [], noted := some s.calls.length }
      else enter s f rest { part := a.toNat, pc := ((P a.toNat).ats b.toNat).toNat, locals := pad l, words := [], noted := none }
    else ends 4 0 s) = .inr s' := h
    split at h'
    · rename_i hgo
      have hk : a.toNat < len := by simp [row, rows] at a0; omega
      have hj : b.toNat < (P a.toNat).el := by omega
      have h1 := hen _ hk _ hj
      have h2 := hcl _ hk
      have hp : ((P a.toNat).ats b.toNat).toNat ≤ 1200 := by omega
      split at h'
      · exact enter_places h' hf hr hp
      · exact enter_places h' hf hr hp
    · cases h'
  · match rest, h, hr with
    | [], h, hr => cases h
    | g :: rest', h, hr =>
      have h' : puts (match f.noted with | none => s | some k => { s with calls := s.calls.modify k fun r => { r with done := true, value := l.getD 0 0 } }) g rest' [l.getD 0 0] = .inr s' := h
      exact puts_places h' (hr g (List.mem_cons_self ..)) (fun x hx => hr x (List.mem_cons_of_mem _ hx))
  · have h' : (if s.told.length < 500 then puts { s with told := s.told ++ [l.getD 0 0] } f rest [] else ends 6 0 s) = .inr s' := h
    split at h'
    · exact puts_places h' hf hr
    · cases h'
  · cases h

theorem step_places {wdo : Int → Int → Int → Int} {P : Nat → PartD} {len : Nat} {s s' : St} (h : Mach.step wdo P len s = .inr s') (hs : Fit len s) (hp : Places s) (hcode : ∀ k, k < len → ∀ j, j < (P k).cl → fault ((P k).o j) ((P k).a j) ((P k).b j) ((P k).c j) = 0)
    (hcl : ∀ k, k < len → (P k).cl ≤ 1200) (hen : ∀ k, k < len → ∀ j, j < (P k).el → (0 ≤ (P k).ats j ∧ (P k).ats j < (P k).cl) ∧ (0 ≤ (P k).prs j ∧ (P k).prs j ≤ 4)) : Places s' := by
  obtain ⟨rooms, data, told, calls⟩ := s
  match rooms, h, hs, hp with
  | [], h, hs, hp => exact absurd rfl hs.room
  | f :: rest, h, hs, hp =>
    have hf := (hs.fr f (List.mem_cons_self ..)).1
    simp only [Mach.step] at h
    split at h
    · rename_i hpc
      split at h
      · exact act_places h (by have := hcl _ hf; show f.pc + 1 ≤ 1200; omega) (fun g hg => hp g (List.mem_cons_of_mem _ hg)) (hcode _ hf _ hpc) hcl hen
      · cases h
    · cases h

/-- at the loop's head, with so much fuel -/
structure Head (w w1 : World) (bM bR bO : Nat) (len dlen : Nat) (P : Nat → PartD) (r : Int × Int × St) (n : Nat) (a : Act) (W : World) : Prop where
  out : ∃ (A : Array Value) (own : Nat → Tag) (vR v19 v20 v21 v22 v23 v24 v25 v28 vT vD vC : Value) (G : List (Fr × Nat × Value)) (s : St) (C : List (Rec × Value)), a = ⟨A, []⟩ ∧ Sl A n bM bR bO vR v19 v20 v21 v22 v23 v24 v25 v28 ∧ RInv own w1 W bO vR vT vD vC G s.data s.told C ∧ G.map Prod.fst = s.rooms ∧ C.map Prod.fst = s.calls ∧
    n ≤ 100000 ∧ Fit len s ∧ Places s ∧ s.data.length = dlen ∧ run wdoT P len n s = r

theorem left_of {A : Array Value} {n : Nat} {bM bR bO : Nat} {vR v19 v20 v21 v22 v23 v24 v25 v28 : Value} (hs : Sl A n bM bR bO vR v19 v20 v21 v22 v23 v24 v25 v28) : (intOf ((⟨A, []⟩ : Act).tmps.getD 5 undef)).toNat = n := by
  show (intOf (A.getD 5 undef)).toNat = n
  rw [hs.s5]
  simp [intOf]

theorem loop {w w1 W : World} {bM bR bO : Nat} {ao : Option Addr} {len cap dlen n : Nat} {P : Nat → PartD} {r : Int × Int × St} {a : Act} {K2 : Act → World → Prop} (hH : Head w w1 bM bR bO len dlen P r n a W) (hS : RSure w1 bM ao len cap dlen P) (hhi : ∀ k, k < len → 0 ≤ (P k).hi) (hT : Begun w w1 bR) (hdl : dlen ≤ 250) :
    Code.wp Tryd.prog (.loop (((Tryd.f15.body.map RInv.loops).getD []).getD 1 .skip)) (Exit.inBlock 2 (Exit.then K2 (bodyPost Tryd.prog Tryd.f15 (Gave w r)))) a W := by
  refine wp_loop (fun a W => ∃ n, Head w w1 bM bR bO len dlen P r n a W) (fun a _ => (intOf (a.tmps.getD 5 undef)).toNat) ⟨n, hH⟩ ?_
  clear hH
  rintro a W ⟨n, hH⟩
  obtain ⟨A, own, vR, v19, v20, v21, v22, v23, v24, v25, v28, vT, vD, vC, G, ⟨rooms, data, told, calls⟩, C, rfl, hs, h, e1, e2, hn, hf, hp, hd, hr⟩ := hH.out
  dsimp only at h e1 e2 hd
  subst e1 e2
  refine RInv.upto_wp 1 (((Tryd.f15.body.map RInv.loops).getD []).getD 1 .skip) (R := fun a w' => Code.wp Tryd.prog (RInv.inside (RInv.behind 1 (((Tryd.f15.body.map RInv.loops).getD []).getD 1 .skip))) (Exit.inBlock 3 (Exit.then (fun a' w' => (∃ n, Head w w1 bM bR bO len dlen P r n a' w') ∧ (intOf (a'.tmps.getD 5 undef)).toNat < (intOf ((⟨A, []⟩ : Act).tmps.getD 5 undef)).toNat) (Exit.inBlock 2 (Exit.then K2 (bodyPost Tryd.prog Tryd.f15 (Gave w r)))))) a w') (fun a w' h => ?_) (asked hs h fun A' hs' => ?_)
  · have h2 := wp_block (id := 3) h
    rwa [← block3] at h2
  · refine round (w := w) (dlen := dlen) hs' h hn hS hhi hT hf hp ⟨hd, hdl⟩ (by rw [hr]) fun m s hm hst A2 own2 W2 vR2 x19 x20 x21 x22 x23 x24 x25 x28 vT2 vD2 vC2 G2 C2 hs2 h2 g1 g2 => ?_
    refine ⟨⟨m, ⟨A2, own2, vR2, x19, x20, x21, x22, x23, x24, x25, x28, vT2, vD2, vC2, G2, s, C2, rfl, hs2, h2, g1, g2, by omega, step_fit hst hf hS.code, step_places hst hf hp hS.code hS.cl1200 hS.entries, (step_data.1 _ hst).trans hd, ?_⟩⟩, ?_⟩
    · rw [← hr, hm, run_next hst]
    · rw [left_of hs2, left_of hs, hm]
      omega
end Go.Proofs.YtmbbkabecipkaacDoor.RLoop
