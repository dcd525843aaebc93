/-
  A PROGRAM OF RAW THINGS, TURNED: with a statement ahead of a body that names what is not there; with a variable that has an array's name. What is refused of it, plain.
  Conditions: none.
  WHAT THE VALUES MEAN OF WHICH barbicankeep.Program MAKES A UNIT, in whatever order they come up.
  Conditions: none.
-/
import Derived.Test.YtgjemlhnlpglbaaDoorR20
namespace Go.Proofs.YtgjemlhnlpglbaaDoor.PGoodPlain
open Go.RowKit NPlace NPlain NSense PPlain PExprBase PStmtBase PWhileBase PProgBase Trees
open Go.Proofs.YtgjemlhnlpglbaaDoor.Ident Go.Proofs.YtgjemlhnlpglbaaDoor.Bytes

def gone : ByteArray := ⟨#[103, 111, 110, 101]⟩
theorem gone_ident : identB gone = true := by simp only [gone, identB, toList_eq] <;> decide
theorem gone_ne : (gone.toList == []) = false := by rw [toList_eq]; decide

/-- the six expressions, none of which may be -/
def oddN (i b1 b2 : Nat) : ENode :=
  if i = 0 then ⟨2, 0, .empty, gone, none, 0, 0⟩
  else if i = 1 then ⟨3, 0, .empty, nx, some ⟨b1, 0, none⟩, 1, 1⟩
  else if i = 2 then ⟨4, 0, .empty, gone, none, 0, 0⟩
  else if i = 3 then ⟨4, 0, gone, nf, none, 0, 0⟩
  else if i = 4 then ⟨4, 0, nu 0, ng, some ⟨b2, 0, none⟩, 1, 1⟩
  else ⟨4, 0, .empty, ng, none, 0, 0⟩
def oddT (i b1 b2 : Nat) : ETree := node (oddN i b1 b2) fun _ => lf 1 0 .empty
def errOf (i : Nat) : Int := if i = 5 then 7 else 5

theorem six {P : Nat → Prop} (h0 : P 0) (h1 : P 1) (h2 : P 2) (h3 : P 3) (h4 : P 4) (h5 : P 5) : ∀ i, i < 6 → P i := by
  intro i hi
  obtain rfl | rfl | rfl | rfl | rfl | rfl : i = 0 ∨ i = 1 ∨ i = 2 ∨ i = 3 ∨ i = 4 ∨ i = 5 := by omega
  · exact h0
  · exact h1
  · exact h2
  · exact h3
  · exact h4
  · exact h5

theorem odd_node (b1 b2 : Nat) : ∀ i, i < 6 → nodeFault (oddN i b1 b2) = 0 := by
  refine six ?_ ?_ ?_ ?_ ?_ ?_
  · simp [nodeFault, oddN, exprForm, exprRange, gone_ident]
  · simp [nodeFault, oddN, exprForm, exprRange, ident_of]
  · simp [nodeFault, oddN, exprForm, exprRange, gone_ident]
  · simp [nodeFault, oddN, exprForm, exprRange, gone_ident, ident_of]
  · simp [nodeFault, oddN, exprForm, exprRange, ident_of]
  · simp [nodeFault, oddN, exprForm, exprRange, ident_of]
theorem lf_fault {d : Nat} : exprFault (d + 1) (lf 1 0 .empty) = 0 := e_fault (many := 1) (pl := 0) (lf_num ⟨by decide, by decide⟩)
theorem odd_fault0 (i b1 b2 : Nat) (hi : i < 6) : exprFault 12 (oddT i b1 b2) = 0 := by
  show (if nodeFault (oddN i b1 b2) = 0 then _ else _) = _
  rw [if_pos (odd_node b1 b2 i hi)]
  exact first_all fun j _ => lf_fault

/-- 'say ..' -/
def sayN (X : ETree) (be : Nat) : SNode := ⟨6, .empty, some ⟨be, 0, none⟩, 1, 1, one1 X, none, 0, 0, none, 0, 0⟩
def sayT (X : ETree) (be : Nat) : STree := leafS (sayN X be) (fun _ _ => sayN X be) (fun _ _ => sayN X be)
/-- one ahead of the others -/
def consS (T : STree) (L : Nat → STree) : Nat → STree
  | 0 => T
  | i + 1 => L i

theorem sum_cons {f : Nat → Nat} : ∀ n, sum f (n + 1) = f 0 + sum (fun i => f (i + 1)) n
  | 0 => by simp [sum]
  | n + 1 => by
    have e : sum (fun i => f (i + 1)) (n + 1) = sum (fun i => f (i + 1)) n + f (n + 1) := rfl
    rw [sum, sum_cons n, e]; omega
theorem say_head {X : ETree} (be : Nat) (h : exprFault 12 X = 0) : headFault (sayN X be) = 0 := by
  have hf : stmtForm (sayN X be) = true := by simp [stmtForm, sayN]
  rw [headFault, if_pos (by simp [sayN]), if_pos hf]
  exact first_all fun j _ => h
theorem none_fault {d : Nat} (L : Nat → STree) : stmtsFault (d + 1) 0 L = 0 := rfl
theorem cons_fault {X : ETree} {be n : Nat} {L : Nat → STree} {many pl : Nat} (h : exprFault 12 X = 0) (hL : okS many pl 12 n L) : stmtsFault 12 (n + 1) (consS (sayT X be) L) = 0 := by
  rw [stmtsFault_succ]
  refine first_all fun i hi => ?_
  rcases i with _ | i
  · show (if headFault (sayN X be) = 0 then _ else _) = _
    rw [if_pos (say_head be h)]
    rfl
  · exact first_zero (s_fault hL) i (by omega)
theorem cons_count {X : ETree} {be n : Nat} {L : Nat → STree} (h : count 12 n L ≤ 28) : count 12 (n + 1) (consS (sayT X be) L) ≤ 29 := by
  rw [count_cnt, sum_cons]
  rw [count_cnt] at h
  have e : cnt 11 (consS (sayT X be) L 0) = 1 := rfl
  have e2 : sum (fun i => cnt 11 (consS (sayT X be) L (i + 1))) n = sum (fun i => cnt 11 (L i)) n := rfl
  rw [e, e2]; omega

/-- a unit with another body of its first function -/
def setB (x : ULay) (ao : Option Addr) (n c : Nat) (L : Nat → STree) (s e : Nat) : ULay :=
  ⟨x.lo, x.hi, x.bv, x.ba, x.bf, x.p0, x.p1, fun k => if k = 0 then ao else x.ao k, fun k => if k = 0 then n else x.n k, fun k => if k = 0 then c else x.c k, fun k => if k = 0 then L else x.L k, fun k => if k = 0 then s else x.s k, fun k => if k = 0 then e else x.e k⟩
/-- another first unit -/
def putU (u : UnitD) (X : Nat → ULay) : Nat → UnitD := fun i => if i = 0 then u else unitD i (X i)

theorem putU_heads {many : Nat} (hm : many ≤ 3) {u : UnitD} (hu : UnitHd 0 u) (X : Nat → ULay) : Heads many (putU u X) := ⟨hm, fun i _ => by
  unfold putU
  split
  · rename_i h; rw [h]; exact hu
  · exact unit_hd i (X i)⟩
theorem putU_names {u : UnitD} (hu : u.name = nu 0) (X : Nat → ULay) (i : Nat) : (putU u X i).name = nu i := by
  unfold putU
  split
  · rename_i h; rw [h]; exact hu
  · rfl

theorem not_has {z : Nat → ByteArray} {s : ByteArray} {n : Nat} (h : ∀ j, j < n → ((z j).toList == s.toList) = false) : hasB z s n = false := by
  rcases e : hasB z s n with _ | _
  · rfl
  · rw [hasB_iff, place_none n 0 fun j _ hj => h j (by omega)] at e
    exact absurd rfl e
theorem vz2 (j : Nat) (hj : j < 2) : vz j = nx ∨ vz j = ny := by
  obtain rfl | rfl : j = 0 ∨ j = 1 := by omega
  · exact .inl rfl
  · exact .inr rfl
theorem func_none {i : Nat} {u : UnitD} (h : UnitHd i u) : funcOf u gone = none := by
  have e : placeFrom (funcNames u) gone 0 u.fl = -1 := place_none u.fl 0 fun j _ hj => by
    rw [h.funs] at hj
    obtain rfl | rfl | rfl : j = 0 ∨ j = 1 ∨ j = 2 := by omega
    · show ((u.fs 0).name.toList == _) = false
      rw [h.f0.1, toList_eq, toList_eq]; decide
    · show ((u.fs 1).name.toList == _) = false
      rw [h.f1.1, toList_eq, toList_eq]; decide
    · show ((u.fs 2).name.toList == _) = false
      rw [h.f2.1, toList_eq, toList_eq]; decide
  rw [funcOf, e]; rfl
theorem nu_gone (j : Nat) : ((nu j).toList == gone.toList) = false := by
  unfold nu
  split
  · rw [toList_eq, toList_eq]; decide
  · split <;> (rw [toList_eq, toList_eq]; decide)

theorem odd_name {many b1 b2 : Nat} {U : Nat → UnitD} (h : Heads many U) (hm : 1 ≤ many) {u : UnitD} (hu : UnitHd 0 u) {f : FuncD} (hf : f = u.fs 0) : ∀ i, i < 6 → nameFault many U u f (oddN i b1 b2) = errOf i := by
  have hp : f.pl = 2 := by rw [hf]; exact hu.f0.2.2
  have hps : ∀ j, j < 2 → f.ps j = pp j := fun j hj => by rw [hf]; exact hu.pars 0 (by omega) j (by rw [hu.f0.2.2]; exact hj)
  refine six ?_ ?_ ?_ ?_ ?_ ?_
  · have hv : varThere u f gone = false := by
      rw [varThere, has_both, hp, hu.vars.1, not_has fun j hj => ?_, not_has fun j hj => ?_]
      · rfl
      · obtain rfl | rfl : j = 0 ∨ j = 1 := by omega
        · rw [hu.vars.2.1, toList_eq, toList_eq]; decide
        · rw [hu.vars.2.2, toList_eq, toList_eq]; decide
      · rw [hps j hj]
        obtain rfl | rfl : j = 0 ∨ j = 1 := by omega
        · rw [toList_eq, toList_eq]; decide
        · rw [toList_eq, toList_eq]; decide
    simp [nameFault, oddN, errOf, hv]
  · have hv : arrayThere u nx = false := by
      rw [arrayThere, hu.arrs.1]
      exact not_has fun j hj => by
        obtain rfl : j = 0 := by omega
        rw [hu.arrs.2.1, toList_eq, toList_eq]; decide
    simp [nameFault, oddN, errOf, hv]
  · have ha : asked many U u .empty gone = none := by rw [asked_own, func_none hu]
    simp [nameFault, oddN, errOf, ha]
  · have ha : asked many U u gone nf = none := by
      have hn : placeFrom (unitNames U) gone 0 many = -1 := place_none many 0 fun j _ hj => by
        show ((U j).name.toList == _) = false
        rw [(h.2 j (by omega)).name]
        exact nu_gone j
      rw [asked, if_neg (by rw [gone_ne]; decide), hn, if_neg (by decide)]
    simp [nameFault, oddN, errOf, ha]
  · have ha : asked many U u (nu 0) ng = none := by
      rw [asked_of h (by omega) (fun_g (h.2 0 (by omega))), (h.2 0 (by omega)).f1.2.1]
      rfl
    simp [nameFault, oddN, errOf, ha]
  · have ha : asked many U u .empty ng = some (u.fs 1) := by rw [asked_own, fun_g hu]
    simp [nameFault, oddN, errOf, ha, hu.f1.2.2]

theorem errOf_ne (i : Nat) : errOf i ≠ 0 := by unfold errOf; split <;> decide
theorem first0 {f : Nat → Int} {n : Nat} {e : Int} (hn : 0 < n) (h : f 0 = e) (he : e ≠ 0) : first f n = e := by
  rw [first_stops (k := 0) hn rfl (by rw [h]; exact he), h]

/-- with a statement ahead that names what is not there -/
theorem odd_program {many : Nat} (hm : 1 ≤ many ∧ many ≤ 3) {X : Nat → ULay} (hX : ∀ i, i < many → UOk many (X i)) (i b1 b2 be c s e : Nat) (ao : Option Addr) (hi : i < 6) :
    programFault many (putU (unitD 0 (setB (X 0) ao ((X 0).n 0 + 1) c (consS (sayT (oddT i b1 b2) be) ((X 0).L 0)) s e)) X) = errOf i := by
  generalize hx : setB (X 0) ao ((X 0).n 0 + 1) c (consS (sayT (oddT i b1 b2) be) ((X 0).L 0)) s e = x
  have hu0 : UnitHd 0 (unitD 0 x) := unit_hd 0 x
  have hh : Heads many (putU (unitD 0 x) X) := putU_heads hm.2 hu0 X
  have h0 := hX 0 (by omega)
  have hb0 : ∀ k, k < 3 → stmtsFault 12 ((unitD 0 x).fs k).bl ((unitD 0 x).fs k).body = 0 ∧ count 12 ((unitD 0 x).fs k).bl ((unitD 0 x).fs k).body ≤ 29 := by
    intro k hk
    have hk' := h0 k hk
    obtain rfl | rfl | rfl : k = 0 ∨ k = 1 ∨ k = 2 := by omega
    · rw [← hx]
      exact ⟨cons_fault (odd_fault0 i b1 b2 hi) hk'.1, cons_count hk'.2.1⟩
    · rw [← hx]
      exact ⟨s_fault hk'.1, Nat.le_trans hk'.2.1 (by omega)⟩
    · rw [← hx]
      exact ⟨s_fault hk'.1, Nat.le_trans hk'.2.1 (by omega)⟩
  have hu : first (fun j => unitFault (putU (unitD 0 x) X j)) many = 0 := first_all fun j hj => by
    by_cases e : j = 0
    · subst e
      exact unit_fault (by omega) hu0 hb0
    · have e1 : putU (unitD 0 x) X j = unitD j (X j) := if_neg e
      rw [e1]
      exact unit_fault (by omega) (unit_hd j (X j)) fun k hk => ⟨s_fault (body_ok (hX j hj) k hk).1, Nat.le_trans (body_ok (hX j hj) k hk).2 (by omega)⟩
  have hw : allWords (putU (unitD 0 x) X) many ≤ 10 * many := all_words (fun j hj => by rw [unit_words (hh.2 j hj)]; omega) many (Nat.le_refl _)
  rw [programFault, if_pos (by omega), if_pos hu, if_neg (by rw [units_once hm.2 fun j _ => putU_names rfl X j]; decide), if_neg (by omega)]
  refine first0 (by omega) ?_ (errOf_ne i)
  show unitSense many (putU (unitD 0 x) X) (unitD 0 x) = errOf i
  rw [unitSense, if_neg (by rw [words_once hu0, funs_once hu0]; decide), hu0.funs]
  refine first0 (by omega) ?_ (errOf_ne i)
  show funcSense many _ (unitD 0 x) ((unitD 0 x).fs 0) = errOf i
  rw [funcSense, if_neg (by rw [pars_once hu0 (by omega)]; decide)]
  have e1 : ((unitD 0 x).fs 0).bl = (X 0).n 0 + 1 := by rw [← hx]; rfl
  have e2 : ((unitD 0 x).fs 0).body = consS (sayT (oddT i b1 b2) be) ((X 0).L 0) := by rw [← hx]; rfl
  have hn := odd_name (b1 := b1) (b2 := b2) hh hm.1 hu0 (f := (unitD 0 x).fs 0) rfl i hi
  have hs : headSense many (putU (unitD 0 x) X) (unitD 0 x) ((unitD 0 x).fs 0) (sayN (oddT i b1 b2) be) = errOf i := by
    have h0 : setFault (unitD 0 x) ((unitD 0 x).fs 0) (sayN (oddT i b1 b2) be) = 0 := by simp [setFault, sayN]
    rw [headSense, if_pos h0]
    refine first0 (by show 0 < 1; omega) ?_ (errOf_ne i)
    show (if nameFault many _ _ _ (oddN i b1 b2) = 0 then _ else nameFault many _ _ _ (oddN i b1 b2)) = _
    rw [if_neg (by rw [hn]; exact errOf_ne i), hn]
  rw [e1, e2, stmtsSense_succ]
  refine first0 (by omega) ?_ (errOf_ne i)
  show (if headSense many _ _ _ (sayN (oddT i b1 b2) be) = 0 then _ else headSense many _ _ _ (sayN (oddT i b1 b2) be)) = _
  rw [if_neg (by rw [hs]; exact errOf_ne i), hs]

/-- the first unit, with a variable more, that has the array's name -/
def unitV (x : ULay) (va : Option Addr) (vc : Nat) : UnitD :=
  ⟨nu 0, va, 3, vc, fun k => if k = 2 then narr else vz k, some ⟨x.ba, 0, none⟩, 1, 1, fun _ => narr, fun _ => 2 + ((0 : Nat) : Int), some ⟨x.bf, 0, none⟩, 3, 3, func0 x⟩

theorem doubled_of {z : Nat → ByteArray} {j : Nat} (h : hasB z (z j) j = true) : ∀ (k i : Nat), i ≤ j → j < i + k → doubledFrom z i k = true
  | 0, i, h1, h2 => by omega
  | k + 1, i, h1, h2 => by
    rw [doubledFrom]
    by_cases e : i = j
    · subst e; rw [if_pos h]
    · split
      · rfl
      · exact doubled_of h k (i + 1) (by omega) (by omega)

theorem twice_program {many : Nat} (hm : 1 ≤ many ∧ many ≤ 3) {X : Nat → ULay} (hX : ∀ i, i < many → UOk many (X i)) (va : Option Addr) (vc s e : Nat) (L : Nat → STree) :
    programFault many (putU (unitV (setB (X 0) none 0 0 L s e) va vc) X) = 6 := by
  generalize hx : setB (X 0) none 0 0 L s e = x
  have hu0 : UnitHd 0 (unitD 0 x) := unit_hd 0 x
  have h0 := hX 0 (by omega)
  have hb0 : ∀ k, k < 3 → stmtsFault 12 ((unitD 0 x).fs k).bl ((unitD 0 x).fs k).body = 0 ∧ count 12 ((unitD 0 x).fs k).bl ((unitD 0 x).fs k).body ≤ 29 := by
    intro k hk
    have hk' := h0 k hk
    obtain rfl | rfl | rfl : k = 0 ∨ k = 1 ∨ k = 2 := by omega
    · rw [← hx]
      exact ⟨rfl, by show count 12 0 L ≤ 29; rw [count_none]; omega⟩
    · rw [← hx]
      exact ⟨s_fault hk'.1, Nat.le_trans hk'.2.1 (by omega)⟩
    · rw [← hx]
      exact ⟨s_fault hk'.1, Nat.le_trans hk'.2.1 (by omega)⟩
  have hfr : frontFault (unitV x va vc) = 0 := by
    have hn : namesFault (unitV x va vc).vs (unitV x va vc).vl = 0 := by
      show first (fun k => if identB (if k = 2 then narr else vz k) = true then 0 else 4) 3 = 0
      refine first_all fun k hk => ?_
      obtain rfl | rfl | rfl : k = 0 ∨ k = 1 ∨ k = 2 := by omega
      · exact if_pos (ident_of (.inl rfl))
      · exact if_pos (ident_of (.inr (.inl rfl)))
      · exact if_pos (ident_of (by simp))
    rw [frontFault, show (unitV x va vc).name = nu 0 from rfl, if_pos (ident_nu 0), if_pos (by show 3 ≤ 8 ∧ 1 ≤ 3 ∧ 3 ≤ 8; decide), if_pos hn]
    show first (fun i => arrayFault narr (2 + ((0 : Nat) : Int))) 1 = 0
    exact first_all fun k _ => by rw [arrayFault, if_pos (ident_of (by simp)), if_pos (by omega)]
  have hu1 : unitFault (unitV x va vc) = 0 := by
    have hm2 : Trees.many (unitV x va vc) ≤ 87 := by
      have h0 := (hb0 0 (by omega)).2
      have h1 := (hb0 1 (by omega)).2
      have h2 := (hb0 2 (by omega)).2
      show Trees.sum (fun i => count 12 ((unitD 0 x).fs i).bl ((unitD 0 x).fs i).body) 3 ≤ 87
      simp only [Trees.sum]
      omega
    have hw : wrap64 (Trees.many (unitV x va vc)) = Trees.many (unitV x va vc) := by unfold wrap64; omega
    have hff : first (fun i => funcFault ((unitV x va vc).fs i)) (unitV x va vc).fl = 0 := first_all fun k (hk : k < 3) => func_fault hu0 hk (hb0 k hk).1
    rw [unitFault, if_pos hfr, if_pos hff, hw, if_neg (by omega)]
  have hu : first (fun j => unitFault (putU (unitV x va vc) X j)) many = 0 := first_all fun j hj => by
    by_cases e : j = 0
    · subst e
      exact hu1
    · have e1 : putU (unitV x va vc) X j = unitD j (X j) := if_neg e
      rw [e1]
      exact unit_fault (by omega) (unit_hd j (X j)) fun k hk => ⟨s_fault (body_ok (hX j hj) k hk).1, Nat.le_trans (body_ok (hX j hj) k hk).2 (by omega)⟩
  have hw : allWords (putU (unitV x va vc) X) many ≤ 10 * many := all_words (fun j hj => by
    by_cases e : j = 0
    · subst e
      show wordsOf (unitV x va vc) ≤ 10
      rw [wordsOf]
      show ((3 : Nat) : Int) + sizes (fun _ => 2 + ((0 : Nat) : Int)) 1 ≤ 10
      simp [sizes]
    · have e1 : putU (unitV x va vc) X j = unitD j (X j) := if_neg e
      rw [e1, unit_words (unit_hd j (X j))]; omega) many (Nat.le_refl _)
  rw [programFault, if_pos (by omega), if_pos hu, if_neg (by rw [units_once hm.2 fun j _ => putU_names rfl X j]; decide), if_neg (by omega)]
  refine first0 (by omega) ?_ (by decide)
  show unitSense many (putU (unitV x va vc) X) (unitV x va vc) = 6
  have ht : twiceB (both (unitV x va vc).vl (unitV x va vc).vs (unitV x va vc).an) ((unitV x va vc).vl + (unitV x va vc).al) = true := by
    rw [twice_eq]
    refine doubled_of (j := 3) ?_ 4 0 (by omega) (by omega)
    exact has_at 2 3 (by omega) rfl
  rw [unitSense, if_pos (.inl ht)]
end Go.Proofs.YtgjemlhnlpglbaaDoor.PGoodPlain

namespace Go.Proofs.YtgjemlhnlpglbaaDoor.PProgG
open Go.RowKit NPlain NSense PPlain PRaw PNumber PExprBase PStmtBase PWhileBase PProgBase Trees

/-- a body -/
def BodyIs (lo many pl : Nat) (v : Value) (W : World) (ao : Option Addr) (n c : Nat) (L : Nat → STree) (s e : Nat) : Prop :=
  v = .slice ao n c ∧ (lo ≤ s ∧ s ≤ e ∧ e ≤ W.heap.size) ∧ (okS many pl 12 n L ∧ count 12 n L ≤ 28 ∧ n ≤ 1000) ∧ ∀ W', Agree s e W W' → SRow W' 12 ao n L
theorem BodyIs.below {lo many pl : Nat} {v : Value} {W W2 : World} {ao : Option Addr} {n c : Nat} {L : Nat → STree} {s e : Nat} (h : BodyIs lo many pl v W ao n c L s e) (hb : Below W.heap.size W W2) : BodyIs lo many pl v W2 ao n c L s e :=
  ⟨h.1, ⟨h.2.1.1, h.2.1.2.1, Nat.le_trans h.2.1.2.2 hb.size⟩, h.2.2.1, fun W' hA => h.2.2.2 W' fun b b1 b2 => (hA b b1 b2).trans (hb.block b (by have := h.2.1.2.2; omega))⟩

/-- a block of one's own, with these cells -/
def BlockAt (lo : Nat) (v : Value) (n : Nat) (cs : Array Value) (t : TypeId) (W : World) : Prop := ∃ b, v = .slice (some ⟨b, 0, none⟩) n n ∧ lo ≤ b ∧ W.heap[b]? = some (.cells cs t)
theorem BlockAt.below {lo n : Nat} {v : Value} {cs : Array Value} {t : TypeId} {W W2 : World} (h : BlockAt lo v n cs t W) (hb : Below W.heap.size W W2) : BlockAt lo v n cs t W2 := h.elim fun b h => ⟨b, h.1, h.2.1, kept hb h.2.2⟩

/-- the functions lie there -/
def FuncsAt (lo many : Nat) (x : ULay) (W : World) : Prop :=
  lo ≤ x.bf ∧ W.heap[x.bf]? = some (.cells (fcells x) 37) ∧ (lo ≤ x.p0 ∧ W.heap[x.p0]? = some (.cells pqcells 9)) ∧ (lo ≤ x.p1 ∧ W.heap[x.p1]? = some (.cells pcells 9)) ∧
  (∀ k, k < 3 → (lo ≤ x.s k ∧ x.s k ≤ x.e k ∧ x.e k ≤ x.bf) ∧ ∀ W', Agree (x.s k) (x.e k) W W' → SRow W' 12 (x.ao k) (x.n k) (x.L k)) ∧ UOk many x
theorem FuncsAt.below {lo many : Nat} {x : ULay} {W W2 : World} (h : FuncsAt lo many x W) (hb : Below W.heap.size W W2) : FuncsAt lo many x W2 := by
  obtain ⟨h1, h2, h3, h4, h5, h6⟩ := h
  refine ⟨h1, kept hb h2, ⟨h3.1, kept hb h3.2⟩, ⟨h4.1, kept hb h4.2⟩, fun k hk => ⟨(h5 k hk).1, fun W' hA => (h5 k hk).2 W' fun b b1 b2 => (hA b b1 b2).trans (hb.block b ?_)⟩, h6⟩
  have := (h5 k hk).1
  have := (Array.getElem?_eq_some_iff.1 h2).1
  omega

/-- a unit lies there -/
def UnitAt (lo many i : Nat) (x : ULay) (W : World) : Prop := x.lo = lo ∧ x.hi ≤ W.heap.size ∧ UIn x ∧ UOk many x ∧ UAt i x W
theorem UnitAt.below {lo many i : Nat} {x : ULay} {W W2 : World} (h : UnitAt lo many i x W) (hb : Below W.heap.size W W2) : UnitAt lo many i x W2 :=
  ⟨h.1, Nat.le_trans h.2.1 hb.size, h.2.2.1, h.2.2.2.1, UAt_agree h.2.2.2.2 h.2.2.1 fun b _ b2 => hb.block b (by have := h.2.1; omega)⟩

/-- what the values mean -/
def GP (lo many i : Nat) (v4 : Value) (lP : Option Addr) (nP cP t : Nat) : Nat → Value → World → Prop
  | 0, v, _ => v = v4
  | 1, v, _ => v = .int .i64 i
  | 2, v, _ => v = .pointer (some ⟨0, i, none⟩)
  | 3, v, _ => v = .string (nu i)
  | 4, v, W => BlockAt lo v 2 vcells 9 W
  | 5, v, _ => v = .int .i64 i
  | 6, v, _ => v = .int .i64 (2 + i)
  | 7, v, _ => v = .agg (acells i)
  | 8, v, W => BlockAt lo v 1 (acells i) 63 W
  | 9, v, W => BlockAt lo v 2 pqcells 9 W
  | 10, v, _ => v = .slice lP nP cP
  | 11, v, _ => v = .int .i64 t
  | 12, v, _ => v = .slice (from_ lP cP 0) t cP
  | 13, v, W => BlockAt lo v 2 pqcells 9 W
  | 14, v, _ => v = .int .i64 many
  | 15, v, W => ∃ ao n c L s e, BodyIs lo many 2 v W ao n c L s e
  | 16, v, W => ∃ pv ao n c L s e, v = .agg #[.string ⟨#[102]⟩, .bool true, pv, .slice ao n c] ∧ BlockAt lo pv 2 pqcells 9 W ∧ BodyIs lo many 2 (.slice ao n c) W ao n c L s e
  | 17, v, W => BlockAt lo v 1 pcells 9 W
  | 18, v, _ => v = .slice lP nP cP
  | 19, v, _ => v = .int .i64 t
  | 20, v, _ => v = .int .i64 t
  | 21, v, _ => v = .int .i64 (2 * (t : Int))
  | 22, v, _ => v = .slice (from_ lP cP t) (2 * t - t) (cP - t)
  | 23, v, W => BlockAt lo v 1 pcells 9 W
  | 24, v, _ => v = .int .i64 many
  | 25, v, W => ∃ ao n c L s e, BodyIs lo many 1 v W ao n c L s e
  | 26, v, W => ∃ pv ao n c L s e, v = .agg #[.string ⟨#[103]⟩, .bool false, pv, .slice ao n c] ∧ BlockAt lo pv 1 pcells 9 W ∧ BodyIs lo many 1 (.slice ao n c) W ao n c L s e
  | 27, v, _ => v = .slice lP nP cP
  | 28, v, _ => v = .int .i64 t
  | 29, v, _ => v = .int .i64 (2 * (t : Int))
  | 30, v, _ => v = .slice (from_ lP cP (2 * t)) (nP - 2 * t) (cP - 2 * t)
  | 31, v, _ => v = .int .i64 many
  | 32, v, W => ∃ ao n c L s e, BodyIs lo many 0 v W ao n c L s e
  | 33, v, W => ∃ ao n c L s e, v = .agg #[.string ⟨#[104]⟩, .bool true, .slice none 0 0, .slice ao n c] ∧ BodyIs lo many 0 (.slice ao n c) W ao n c L s e
  | 34, v, W => ∃ x, v = .slice (some ⟨x.bf, 0, none⟩) 3 3 ∧ FuncsAt lo many x W
  | 35, v, W => ∃ x, v = .agg (ucells i x) ∧ UnitAt lo many i x W
  | 36, v, W => ∃ x bu, v = .slice (some ⟨bu, 0, none⟩) 1 1 ∧ UnitAt lo many i x W ∧ W.heap[bu]? = some (.cells (ucells i x) 41)
  | _, _, _ => True

theorem GP_below (lo many i : Nat) (v4 : Value) (lP : Option Addr) (nP cP t : Nat) : ∀ j v w w', GP lo many i v4 lP nP cP t j v w → Below w.heap.size w w' → GP lo many i v4 lP nP cP t j v w'
  | 0, _, _, _, h, _ => h
  | 1, _, _, _, h, _ => h
  | 2, _, _, _, h, _ => h
  | 3, _, _, _, h, _ => h
  | 4, _, _, _, h, hb => BlockAt.below h hb
  | 5, _, _, _, h, _ => h
  | 6, _, _, _, h, _ => h
  | 7, _, _, _, h, _ => h
  | 8, _, _, _, h, hb => BlockAt.below h hb
  | 9, _, _, _, h, hb => BlockAt.below h hb
  | 10, _, _, _, h, _ => h
  | 11, _, _, _, h, _ => h
  | 12, _, _, _, h, _ => h
  | 13, _, _, _, h, hb => BlockAt.below h hb
  | 14, _, _, _, h, _ => h
  | 15, _, _, _, ⟨ao, n, c, L, s, e, h⟩, hb => ⟨ao, n, c, L, s, e, h.below hb⟩
  | 16, _, _, _, ⟨pv, ao, n, c, L, s, e, h1, h2, h3⟩, hb => ⟨pv, ao, n, c, L, s, e, h1, h2.below hb, h3.below hb⟩
  | 17, _, _, _, h, hb => BlockAt.below h hb
  | 18, _, _, _, h, _ => h
  | 19, _, _, _, h, _ => h
  | 20, _, _, _, h, _ => h
  | 21, _, _, _, h, _ => h
  | 22, _, _, _, h, _ => h
  | 23, _, _, _, h, hb => BlockAt.below h hb
  | 24, _, _, _, h, _ => h
  | 25, _, _, _, ⟨ao, n, c, L, s, e, h⟩, hb => ⟨ao, n, c, L, s, e, h.below hb⟩
  | 26, _, _, _, ⟨pv, ao, n, c, L, s, e, h1, h2, h3⟩, hb => ⟨pv, ao, n, c, L, s, e, h1, h2.below hb, h3.below hb⟩
  | 27, _, _, _, h, _ => h
  | 28, _, _, _, h, _ => h
  | 29, _, _, _, h, _ => h
  | 30, _, _, _, h, _ => h
  | 31, _, _, _, h, _ => h
  | 32, _, _, _, ⟨ao, n, c, L, s, e, h⟩, hb => ⟨ao, n, c, L, s, e, h.below hb⟩
  | 33, _, _, _, ⟨ao, n, c, L, s, e, h1, h3⟩, hb => ⟨ao, n, c, L, s, e, h1, h3.below hb⟩
  | 34, _, _, _, ⟨x, h1, h2⟩, hb => ⟨x, h1, h2.below hb⟩
  | 35, _, _, _, ⟨x, h1, h2⟩, hb => ⟨x, h1, h2.below hb⟩
  | 36, _, _, _, ⟨x, bu, h1, h2, h3⟩, hb => ⟨x, bu, h1, h2.below hb, kept hb h3⟩
  | _ + 37, _, _, _, _, _ => trivial

/-- which of three -/
def pick3 {α : Type} (a b c : α) (k : Nat) : α := if k = 0 then a else if k = 1 then b else c

theorem funcs_made {lo many : Nat} {W : World} {p0 p1 : Nat} {a0 a1 a2 : Option Addr} {n0 n1 n2 c0 c1 c2 : Nat} {L0 L1 L2 : Nat → STree} {s0 e0 s1 e1 s2 e2 : Nat}
    (hp0 : lo ≤ p0 ∧ W.heap[p0]? = some (.cells pqcells 9)) (hp1 : lo ≤ p1 ∧ W.heap[p1]? = some (.cells pcells 9)) (hlo : lo ≤ W.heap.size)
    (h0 : BodyIs lo many 2 (.slice a0 n0 c0) W a0 n0 c0 L0 s0 e0) (h1 : BodyIs lo many 1 (.slice a1 n1 c1) W a1 n1 c1 L1 s1 e1) (h2 : BodyIs lo many 0 (.slice a2 n2 c2) W a2 n2 c2 L2 s2 e2) :
    ∃ x : ULay, x.bf = W.heap.size ∧ FuncsAt lo many x (W.alloc (.cells #[.string ⟨#[102]⟩, .bool true, .slice (some ⟨p0, 0, none⟩) 2 2, .slice a0 n0 c0, .string ⟨#[103]⟩, .bool false, .slice (some ⟨p1, 0, none⟩) 1 1, .slice a1 n1 c1, .string ⟨#[104]⟩, .bool true, .slice none 0 0, .slice a2 n2 c2] 37)) := by
  let x : ULay := ⟨0, 0, 0, 0, W.heap.size, p0, p1, pick3 a0 a1 a2, pick3 n0 n1 n2, pick3 c0 c1 c2, pick3 L0 L1 L2, pick3 s0 s1 s2, pick3 e0 e1 e2⟩
  have hb := below_a W (.cells #[.string ⟨#[102]⟩, .bool true, .slice (some ⟨p0, 0, none⟩) 2 2, .slice a0 n0 c0, .string ⟨#[103]⟩, .bool false, .slice (some ⟨p1, 0, none⟩) 1 1, .slice a1 n1 c1, .string ⟨#[104]⟩, .bool true, .slice none 0 0, .slice a2 n2 c2] 37)
  have k0 := h0.below hb
  have k1 := h1.below hb
  have k2 := h2.below hb
  refine ⟨x, rfl, hlo, got1 W _, ⟨hp0.1, kept hb hp0.2⟩, ⟨hp1.1, kept hb hp1.2⟩, fun k hk => ?_, fun k hk => ?_⟩
  · obtain rfl | rfl | rfl : k = 0 ∨ k = 1 ∨ k = 2 := by omega
    · exact ⟨⟨h0.2.1.1, h0.2.1.2.1, h0.2.1.2.2⟩, k0.2.2.2⟩
    · exact ⟨⟨h1.2.1.1, h1.2.1.2.1, h1.2.1.2.2⟩, k1.2.2.2⟩
    · exact ⟨⟨h2.2.1.1, h2.2.1.2.1, h2.2.1.2.2⟩, k2.2.2.2⟩
  · obtain rfl | rfl | rfl : k = 0 ∨ k = 1 ∨ k = 2 := by omega
    · exact h0.2.2.1
    · exact h1.2.2.1
    · exact h2.2.2.1

theorem unit_made {lo many i : Nat} {x : ULay} {W : World} {bv ba : Nat} (hf : FuncsAt lo many x W) (hv : lo ≤ bv ∧ W.heap[bv]? = some (.cells vcells 9)) (ha : lo ≤ ba ∧ W.heap[ba]? = some (.cells (acells i) 63)) :
    ∃ y : ULay, (y.bv = bv ∧ y.ba = ba ∧ y.bf = x.bf) ∧ UnitAt lo many i y W := by
  obtain ⟨h1, h2, h3, h4, h5, h6⟩ := hf
  have lt : ∀ {b : Nat} {o : Obj}, W.heap[b]? = some o → b < W.heap.size := fun h => (Array.getElem?_eq_some_iff.1 h).1
  refine ⟨⟨lo, W.heap.size, bv, ba, x.bf, x.p0, x.p1, x.ao, x.n, x.c, x.L, x.s, x.e⟩, ⟨rfl, rfl, rfl⟩, rfl, Nat.le_refl _, ⟨⟨hv.1, lt hv.2⟩, ⟨ha.1, lt ha.2⟩, ⟨h1, lt h2⟩, ⟨h3.1, lt h3.2⟩, ⟨h4.1, lt h4.2⟩, fun k hk => (h5 k hk).1⟩, h6, hv.2, ha.2, h2, h3.2, h4.2, fun k hk => (h5 k hk).2⟩

theorem bnd1 (n : Nat) : bnd 1 n ≤ 28 := by
  unfold bnd
  have : per 1 = 7 := rfl
  rw [this]
  split <;> omega
theorem par_pq {W : World} {b : Nat} (h : W.heap[b]? = some (.cells pqcells 9)) : PPar W (some ⟨b, 0, none⟩) 2 := fun j hj => by
  obtain ⟨⟨bl, off, e, t⟩, _⟩ := strs_pq h j hj
  exact ⟨bl, off, e, t⟩
theorem par_p {W : World} {b : Nat} (h : W.heap[b]? = some (.cells pcells 9)) : PPar W (some ⟨b, 0, none⟩) 1 := fun j hj => by
  obtain ⟨⟨bl, off, e, t⟩, _⟩ := strs_p h j hj
  exact ⟨bl, off, e, t⟩
theorem par_none (W : World) : PPar W none 0 := fun j hj => absurd hj (by omega)
end Go.Proofs.YtgjemlhnlpglbaaDoor.PProgG
