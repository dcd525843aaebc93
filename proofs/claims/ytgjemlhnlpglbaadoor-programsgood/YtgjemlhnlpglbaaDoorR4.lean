/-
  PROGRAMS OF RAW THINGS, PLAIN: which expressions and statements they are made of; nothing is refused of such programs (P6.2, P6.3, P7.2).
  Conditions: none.
  RAW THINGS, AND WHAT barbicankeep.picked AND barbicankeep.number MAKE OF THEM.
  Conditions: the raw things lie there, their numbers are those of an int.
-/
import Derived.Test.YtgjemlhnlpglbaaDoorR3
namespace Go.Proofs.YtgjemlhnlpglbaaDoor.PPlain
open Go.RowKit NPlace NPlain Go.Proofs.YtgjemlhnlpglbaaDoor.Ident Go.Proofs.YtgjemlhnlpglbaaDoor.Bytes Go.Proofs.YtgjemlhnlpglbaaDoor.Words Trees NSense

def nx : ByteArray := ⟨#[120]⟩
def ny : ByteArray := ⟨#[121]⟩
def nf : ByteArray := ⟨#[102]⟩
def ng : ByteArray := ⟨#[103]⟩
def nh : ByteArray := ⟨#[104]⟩
def np : ByteArray := ⟨#[112]⟩
def nq : ByteArray := ⟨#[113]⟩
def narr : ByteArray := ⟨#[97, 114, 114]⟩
/-- the units' names -/
def nu (i : Nat) : ByteArray := if i = 0 then ⟨#[111, 110, 101]⟩ else if i = 1 then ⟨#[116, 119, 111]⟩ else ⟨#[116, 114, 105]⟩
/-- the params' names -/
def pp (i : Nat) : ByteArray := if i = 0 then np else nq

/-- a variable that is there, in a function of so many params -/
def varOk (pl : Nat) (s : ByteArray) : Prop := s = nx ∨ s = ny ∨ ∃ j, j < pl ∧ s = pp j

/-- what an expression is, by itself -/
def nodeOk (many pl : Nat) (x : ENode) : Prop :=
  (x.kind = 1 ∧ 0 ≤ x.n ∧ x.n ≤ 65535 ∧ x.of = .empty ∧ x.s = .empty ∧ x.len = 0) ∨
  (x.kind = 2 ∧ x.n = 0 ∧ x.of = .empty ∧ varOk pl x.s ∧ x.len = 0) ∨
  (x.kind = 3 ∧ x.n = 0 ∧ x.of = .empty ∧ x.s = narr ∧ x.len = 1) ∨
  (x.kind = 4 ∧ x.n = 0 ∧ ((x.of = .empty ∧ x.s = ng ∧ x.len = 1) ∨ (∃ i, i < many ∧ x.of = nu i ∧ ((x.s = nf ∧ x.len = 2) ∨ (x.s = nh ∧ x.len = 0))))) ∨
  (x.kind = 5 ∧ 1 ≤ x.n ∧ x.n ≤ 10 ∧ x.of = .empty ∧ x.s = .empty ∧ x.len = 2)

/-- expressions of raw things, with so many depths left -/
def okE (many pl : Nat) : Nat → ETree → Prop
  | 0, _ => False
  | d + 1, T => nodeOk many pl (T []) ∧ ∀ i, i < (T []).len → okE many pl d (sub T i)

/-- what a statement is, but for those within it -/
def headOk (many pl : Nat) (x : SNode) : Prop :=
  ((x.kind = 1 ∧ varOk pl x.s ∧ x.el = 1 ∧ x.bl = 0 ∧ x.ll = 0) ∨
   (x.kind = 2 ∧ x.s = narr ∧ x.el = 2 ∧ x.bl = 0 ∧ x.ll = 0) ∨
   (x.kind = 3 ∧ x.s = .empty ∧ x.el = 1) ∨
   (x.kind = 4 ∧ x.s = .empty ∧ x.el = 1 ∧ x.ll = 0) ∨
   ((x.kind = 5 ∨ x.kind = 6) ∧ x.s = .empty ∧ x.el = 1 ∧ x.bl = 0 ∧ x.ll = 0)) ∧
  ∀ j, j < x.el → okE many pl 12 (x.ex j)

/-- statements of raw things, with so many depths left -/
def okS (many pl : Nat) : Nat → Nat → (Nat → STree) → Prop
  | 0, _, _ => False
  | d + 1, len, L => ∀ i, i < len → headOk many pl (L i []) ∧ okS many pl d (L i []).bl (inBody (L i)) ∧ okS many pl d (L i []).ll (inElse (L i))

theorem ident_of {s : ByteArray} (h : s = nx ∨ s = ny ∨ s = nf ∨ s = ng ∨ s = nh ∨ s = np ∨ s = nq ∨ s = narr ∨ s = nu 0 ∨ s = nu 1 ∨ s = nu 2) : identB s = true := by
  rcases h with h | h | h | h | h | h | h | h | h | h | h <;> subst h <;> simp only [identB, toList_eq] <;> decide
theorem ident_pp (j : Nat) : identB (pp j) = true := by
  unfold pp
  split
  · exact ident_of (by simp)
  · exact ident_of (by simp)
theorem ident_nu (j : Nat) : identB (nu j) = true := by
  have h : nu j = nu 0 ∨ nu j = nu 1 ∨ nu j = nu 2 := by
    unfold nu
    by_cases h0 : j = 0
    · exact .inl (by simp [h0])
    · by_cases h1 : j = 1
      · exact .inr (.inl (by simp [h1]))
      · exact .inr (.inr (by simp [h0, h1]))
  rcases h with h | h | h <;> exact ident_of (by simp [h])
theorem ident_var {pl : Nat} {s : ByteArray} (h : varOk pl s) : identB s = true := by
  rcases h with h | h | ⟨j, _, h⟩
  · exact ident_of (by simp [h])
  · exact ident_of (by simp [h])
  · rw [h]; exact ident_pp j
theorem empty_eq : (ByteArray.empty.toList == []) = true := by rw [toList_eq]; decide
theorem nu_ne (j : Nat) : ((nu j).toList == []) = false := by
  unfold nu
  split
  · rw [toList_eq]; decide
  · split <;> (rw [toList_eq]; decide)

theorem node_fault {many pl : Nat} {x : ENode} (h : nodeOk many pl x) : nodeFault x = 0 := by
  have hk : 1 ≤ x.kind ∧ x.kind ≤ 5 := by rcases h with h | h | h | h | h <;> omega
  have hl : x.len ≤ 4 := by
    rcases h with h | h | h | h | h
    · omega
    · omega
    · omega
    · rcases h.2.2 with h | ⟨i, _, _, h | h⟩ <;> omega
    · omega
  have hf : exprForm x = true := by
    rcases h with ⟨hk, _, _, ho, hs, hl⟩ | ⟨hk, hn, ho, hs, hl⟩ | ⟨hk, hn, ho, hs, hl⟩ | ⟨hk, hn, h⟩ | ⟨hk, _, _, ho, hs, hl⟩
    · simp [exprForm, hk, ho, hs, hl]
    · simp [exprForm, hk, hn, ho, hl, ident_var hs]
    · simp [exprForm, hk, hn, ho, hl, hs, ident_of]
    · rcases h with ⟨ho, hs, hl⟩ | ⟨i, _, ho, ⟨hs, hl⟩ | ⟨hs, hl⟩⟩
      · simp [exprForm, hk, hn, ho, hs, ident_of]
      · simp [exprForm, hk, hn, ho, hs, ident_nu, ident_of]
      · simp [exprForm, hk, hn, ho, hs, ident_nu, ident_of]
    · simp [exprForm, hk, ho, hs, hl]
  have hr : exprRange x = true := by
    rcases h with ⟨hk, h1, h2, _⟩ | ⟨hk, _⟩ | ⟨hk, _⟩ | ⟨hk, _⟩ | ⟨hk, h1, h2, _⟩
    · simp [exprRange, hk, h1, h2]
    · simp [exprRange, hk]
    · simp [exprRange, hk]
    · simp [exprRange, hk]
    · simp [exprRange, hk, h1, h2]
  rw [nodeFault, if_pos hk, if_pos hl, if_pos hf, if_pos hr]

theorem first_all {f : Nat → Int} : ∀ {n : Nat}, (∀ i, i < n → f i = 0) → first f n = 0
  | 0, _ => rfl
  | n + 1, h => by rw [first_succ (first_all fun i hi => h i (by omega))]; exact h n (by omega)

theorem e_fault {many pl : Nat} : ∀ {d : Nat} {T : ETree}, okE many pl d T → exprFault d T = 0
  | 0, _, h => absurd h (by simp [okE])
  | d + 1, T, h => by
    show (if nodeFault (T []) = 0 then _ else _) = _
    rw [if_pos (node_fault h.1)]
    exact first_all fun i hi => e_fault (h.2 i hi)

theorem head_fault {many pl : Nat} {x : SNode} (h : headOk many pl x) : headFault x = 0 := by
  obtain ⟨h, he⟩ := h
  have hk : 1 ≤ x.kind ∧ x.kind ≤ 6 := by rcases h with h | h | h | h | h <;> omega
  have hf : stmtForm x = true := by
    rcases h with ⟨hk, hs, hl, hb, ha⟩ | ⟨hk, hs, hl, hb, ha⟩ | ⟨hk, hs, hl⟩ | ⟨hk, hs, hl, ha⟩ | ⟨hk, hs, hl, hb, ha⟩
    · simp [stmtForm, hk, hl, hb, ha, ident_var hs]
    · simp [stmtForm, hk, hs, hl, hb, ha, ident_of]
    · simp [stmtForm, hk, hs, hl]
    · simp [stmtForm, hk, hs, hl, ha]
    · rcases hk with hk | hk <;> simp [stmtForm, hk, hs, hl, hb, ha]
  rw [headFault, if_pos hk, if_pos hf]
  exact first_all fun j hj => e_fault (he j hj)

theorem s_fault {many pl : Nat} : ∀ {d len : Nat} {L : Nat → STree}, okS many pl d len L → stmtsFault d len L = 0
  | 0, _, _, h => absurd h (by simp [okS])
  | d + 1, len, L, h => first_all fun i hi => by
    obtain ⟨h0, h1, h2⟩ := h i hi
    show (if headFault (L i []) = 0 then _ else _) = _
    rw [if_pos (head_fault h0), if_pos (s_fault h1), s_fault h2]

/-- a unit of raw things, but for what its functions do -/
structure UnitHd (i : Nat) (u : UnitD) : Prop where
  name : u.name = nu i
  vars : u.vl = 2 ∧ u.vs 0 = nx ∧ u.vs 1 = ny
  arrs : u.al = 1 ∧ u.an 0 = narr ∧ u.az 0 = 2 + i
  funs : u.fl = 3
  f0 : (u.fs 0).name = nf ∧ (u.fs 0).op = true ∧ (u.fs 0).pl = 2
  f1 : (u.fs 1).name = ng ∧ (u.fs 1).op = false ∧ (u.fs 1).pl = 1
  f2 : (u.fs 2).name = nh ∧ (u.fs 2).op = true ∧ (u.fs 2).pl = 0
  pars : ∀ k, k < 3 → ∀ j, j < (u.fs k).pl → (u.fs k).ps j = pp j

/-- what its functions do -/
def BodyOk (many : Nat) (f : FuncD) : Prop := okS many f.pl 12 f.bl f.body ∧ count 12 f.bl f.body ≤ 28

theorem three {P : Nat → Prop} (h0 : P 0) (h1 : P 1) (h2 : P 2) : ∀ k, k < 3 → P k := by
  intro k hk
  obtain rfl | rfl | rfl : k = 0 ∨ k = 1 ∨ k = 2 := by omega
  · exact h0
  · exact h1
  · exact h2
theorem pl_le {i : Nat} {u : UnitD} (h : UnitHd i u) : ∀ k, k < 3 → (u.fs k).pl ≤ 2 := three (by rw [h.f0.2.2]; decide) (by rw [h.f1.2.2]; decide) (by rw [h.f2.2.2]; decide)
theorem fname {i : Nat} {u : UnitD} (h : UnitHd i u) : ∀ k, k < 3 → identB (u.fs k).name = true := three (by rw [h.f0.1]; exact ident_of (by simp)) (by rw [h.f1.1]; exact ident_of (by simp)) (by rw [h.f2.1]; exact ident_of (by simp))

theorem front_fault {i : Nat} (hi : i < 3) {u : UnitD} (h : UnitHd i u) : frontFault u = 0 := by
  have hn : namesFault u.vs u.vl = 0 := by
    rw [h.vars.1]
    refine first_all fun k hk => ?_
    obtain rfl | rfl : k = 0 ∨ k = 1 := by omega
    · rw [h.vars.2.1, if_pos (ident_of (by simp))]
    · rw [h.vars.2.2, if_pos (ident_of (by simp))]
  rw [frontFault, h.name, if_pos (ident_nu i), if_pos (by rw [h.vars.1, h.arrs.1, h.funs]; decide), if_pos hn, h.arrs.1]
  refine first_all fun k hk => ?_
  obtain rfl : k = 0 := by omega
  rw [arrayFault, h.arrs.2.1, h.arrs.2.2, if_pos (ident_of (by simp)), if_pos (by omega)]

theorem func_fault {i : Nat} {u : UnitD} (h : UnitHd i u) {k : Nat} (hk : k < 3) (hb : stmtsFault 12 (u.fs k).bl (u.fs k).body = 0) : funcFault (u.fs k) = 0 := by
  have hp := pl_le h k hk
  have hn : namesFault (u.fs k).ps (u.fs k).pl = 0 := first_all fun j hj => by rw [h.pars k hk j hj, if_pos (ident_pp j)]
  rw [funcFault, if_pos (fname h k hk), if_pos (by omega), if_pos hn]
  exact hb

theorem unit_fault {i : Nat} (hi : i < 3) {u : UnitD} (h : UnitHd i u) (hb : ∀ k, k < 3 → stmtsFault 12 (u.fs k).bl (u.fs k).body = 0 ∧ count 12 (u.fs k).bl (u.fs k).body ≤ 29) : unitFault u = 0 := by
  have hm : Trees.many u ≤ 87 := by
    have h0 := (hb 0 (by omega)).2
    have h1 := (hb 1 (by omega)).2
    have h2 := (hb 2 (by omega)).2
    show Trees.sum (fun i => count 12 (u.fs i).bl (u.fs i).body) u.fl ≤ 87
    rw [h.funs]
    simp only [Trees.sum]
    omega
  have hw : wrap64 (Trees.many u) = Trees.many u := by unfold wrap64; omega
  rw [unitFault, if_pos (front_fault hi h), if_pos (by rw [h.funs]; exact first_all fun k hk => func_fault h hk (hb k hk).1), hw, if_neg (by omega)]

/-! names -/
theorem place_at {z : Nat → ByteArray} {s : ByteArray} : ∀ (n k i : Nat), k ≤ i → i < k + n → z i = s → (∀ j, k ≤ j → j < i → ((z j).toList == s.toList) = false) → placeFrom z s k n = i
  | 0, k, i, h, h', _, _ => by omega
  | n + 1, k, i, h, h', hz, hj => by
    rw [placeFrom]
    by_cases e : k = i
    · subst e
      rw [if_pos (by rw [hz]; exact beq_self_eq_true _)]
    · rw [if_neg (by rw [hj k (Nat.le_refl _) (by omega)]; decide)]
      exact place_at n (k + 1) i (by omega) (by omega) hz fun j h1 h2 => hj j (by omega) h2
theorem place_none {z : Nat → ByteArray} {s : ByteArray} : ∀ (n k : Nat), (∀ j, k ≤ j → j < k + n → ((z j).toList == s.toList) = false) → placeFrom z s k n = -1
  | 0, _, _ => rfl
  | n + 1, k, hj => by
    rw [placeFrom, if_neg (by rw [hj k (Nat.le_refl _) (by omega)]; decide)]
    exact place_none n (k + 1) fun j h1 h2 => hj j (by omega) (by omega)
theorem has_at {z : Nat → ByteArray} {s : ByteArray} (i n : Nat) (hi : i < n) (hz : z i = s) : hasB z s n = true := by
  rw [hasB_iff]
  intro h
  have e : n = i + (1 + (n - i - 1)) := by omega
  rw [e, place_append] at h
  split at h
  · rw [Nat.zero_add, Nat.add_comm 1, placeFrom, if_pos (by rw [hz]; exact beq_self_eq_true _)] at h
    omega
  · contradiction
theorem once {z : Nat → ByteArray} {n : Nat} (h : ∀ i j, j < i → i < n → ((z j).toList == (z i).toList) = false) : twiceB z n = false := by
  rw [twice_eq]
  suffices ∀ k i, i + k ≤ n → doubledFrom z i k = false from this n 0 (by omega)
  intro k
  induction k with
  | zero => intro i _; rfl
  | succ k ih =>
    intro i hi
    rw [doubledFrom, if_neg, ih (i + 1) (by omega)]
    rw [hasB_iff, place_none i 0 fun j _ hj => h i j (by omega) (by omega)]
    simp

theorem nu_ne_nu {i j : Nat} (hi : i < 3) (hj : j < 3) (h : i ≠ j) : ((nu i).toList == (nu j).toList) = false := by
  rw [toList_eq, toList_eq]
  obtain rfl | rfl | rfl : i = 0 ∨ i = 1 ∨ i = 2 := by omega
  · obtain rfl | rfl : j = 1 ∨ j = 2 := by omega
    · decide
    · decide
  · obtain rfl | rfl : j = 0 ∨ j = 2 := by omega
    · decide
    · decide
  · obtain rfl | rfl : j = 0 ∨ j = 1 := by omega
    · decide
    · decide

/-- units of raw things, but for what their functions do -/
def Heads (many : Nat) (U : Nat → UnitD) : Prop := many ≤ 3 ∧ ∀ i, i < many → UnitHd i (U i)

theorem unit_at {many i : Nat} {U : Nat → UnitD} (h : Heads many U) (hi : i < many) : placeFrom (unitNames U) (nu i) 0 many = i :=
  place_at many 0 i (Nat.zero_le _) (by omega) (h.2 i hi).name fun j _ hj => by
    show ((U j).name.toList == _) = false
    rw [(h.2 j (by omega)).name]
    exact nu_ne_nu (by have := h.1; omega) (by have := h.1; omega) (by omega)

theorem fun_f {i : Nat} {u : UnitD} (h : UnitHd i u) : funcOf u nf = some (u.fs 0) := by
  have e : placeFrom (funcNames u) nf 0 u.fl = 0 := place_at u.fl 0 0 (Nat.le_refl _) (by rw [h.funs]; decide) h.f0.1 fun j _ hj => absurd hj (by omega)
  rw [funcOf, e]
  simp
theorem fun_g {i : Nat} {u : UnitD} (h : UnitHd i u) : funcOf u ng = some (u.fs 1) := by
  have e : placeFrom (funcNames u) ng 0 u.fl = 1 := place_at u.fl 0 1 (by omega) (by rw [h.funs]; decide) h.f1.1 fun j _ hj => by
    obtain rfl : j = 0 := by omega
    show ((u.fs 0).name.toList == _) = false
    rw [h.f0.1, toList_eq, toList_eq]
    decide
  rw [funcOf, e]
  simp
theorem fun_h {i : Nat} {u : UnitD} (h : UnitHd i u) : funcOf u nh = some (u.fs 2) := by
  have e : placeFrom (funcNames u) nh 0 u.fl = 2 := place_at u.fl 0 2 (by omega) (by rw [h.funs]; decide) h.f2.1 fun j _ hj => by
    obtain rfl | rfl : j = 0 ∨ j = 1 := by omega
    · show ((u.fs 0).name.toList == _) = false
      rw [h.f0.1, toList_eq, toList_eq]
      decide
    · show ((u.fs 1).name.toList == _) = false
      rw [h.f1.1, toList_eq, toList_eq]
      decide
  rw [funcOf, e]
  simp

theorem asked_own {many : Nat} {U : Nat → UnitD} {u : UnitD} {s : ByteArray} : asked many U u .empty s = funcOf u s := by rw [asked, if_pos empty_eq]
theorem asked_of {many i : Nat} {U : Nat → UnitD} {u : UnitD} {s : ByteArray} {g : FuncD} (h : Heads many U) (hi : i < many) (hf : funcOf (U i) s = some g) : asked many U u (nu i) s = if g.op = true then some g else none := by
  rw [asked, if_neg (by rw [nu_ne]; decide), unit_at h hi, if_pos (by omega)]
  show (match funcOf (U i) s with | some g => if g.op = true then some g else none | none => none) = _
  rw [hf]

theorem var_there {i : Nat} {u : UnitD} (h : UnitHd i u) {k : Nat} (hk : k < 3) {s : ByteArray} (hs : varOk (u.fs k).pl s) : varThere u (u.fs k) s = true := by
  rw [varThere, has_both, Bool.or_eq_true]
  rcases hs with hs | hs | ⟨j, hj, hs⟩
  · exact .inr (has_at 0 u.vl (by rw [h.vars.1]; decide) (by rw [h.vars.2.1, hs]))
  · exact .inr (has_at 1 u.vl (by rw [h.vars.1]; decide) (by rw [h.vars.2.2, hs]))
  · exact .inl (has_at j _ hj (by rw [h.pars k hk j hj, hs]))
theorem arr_there {i : Nat} {u : UnitD} (h : UnitHd i u) : arrayThere u narr = true := has_at 0 u.al (by rw [h.arrs.1]; decide) h.arrs.2.1

theorem name_fault {many i : Nat} {U : Nat → UnitD} (h : Heads many U) {u : UnitD} (hu : UnitHd i u) {k : Nat} (hk : k < 3) {x : ENode} (hx : nodeOk many (u.fs k).pl x) : nameFault many U u (u.fs k) x = 0 := by
  rcases hx with ⟨hk1, _⟩ | ⟨hk1, _, _, hs, _⟩ | ⟨hk1, _, _, hs, _⟩ | ⟨hk1, _, hx⟩ | ⟨hk1, _⟩
  · rw [nameFault, hk1]; simp
  · rw [nameFault, hk1, if_pos rfl, if_pos (var_there hu hk hs)]
  · rw [nameFault, hk1, if_neg (by decide), if_pos rfl, hs, if_pos (arr_there hu)]
  · rw [nameFault, hk1, if_neg (by decide), if_neg (by decide), if_pos rfl]
    rcases hx with ⟨ho, hs, hl⟩ | ⟨j, hj, ho, ⟨hs, hl⟩ | ⟨hs, hl⟩⟩
    · rw [ho, hs, asked_own, fun_g hu]
      simp [hu.f1.2.2, hl]
    · rw [ho, hs, asked_of h hj (fun_f (h.2 j hj)), (h.2 j hj).f0.2.1]
      simp [(h.2 j hj).f0.2.2, hl]
    · rw [ho, hs, asked_of h hj (fun_h (h.2 j hj)), (h.2 j hj).f2.2.1]
      simp [(h.2 j hj).f2.2.2, hl]
  · rw [nameFault, hk1]; simp

theorem e_sense {many i : Nat} {U : Nat → UnitD} (h : Heads many U) {u : UnitD} (hu : UnitHd i u) {k : Nat} (hk : k < 3) : ∀ {d : Nat} {T : ETree}, okE many (u.fs k).pl d T → exprSense many U u (u.fs k) d T = 0
  | 0, _, _ => rfl
  | d + 1, T, hT => by
    show (if nameFault many U u (u.fs k) (T []) = 0 then _ else _) = _
    rw [if_pos (name_fault h hu hk hT.1)]
    exact first_all fun j hj => e_sense h hu hk (hT.2 j hj)

theorem head_sense {many i : Nat} {U : Nat → UnitD} (h : Heads many U) {u : UnitD} (hu : UnitHd i u) {k : Nat} (hk : k < 3) {x : SNode} (hx : headOk many (u.fs k).pl x) : headSense many U u (u.fs k) x = 0 := by
  have h0 : setFault u (u.fs k) x = 0 := by
    rcases hx.1 with ⟨e, hs, _⟩ | ⟨e, hs, _⟩ | ⟨e, _⟩ | ⟨e, _⟩ | ⟨e, _⟩
    · rw [setFault, e, if_pos rfl, if_pos (var_there hu hk hs)]
    · rw [setFault, e, if_neg (by decide), if_pos rfl, hs, if_pos (arr_there hu)]
    · rw [setFault, e]; simp
    · rw [setFault, e]; simp
    · rcases e with e | e <;> (rw [setFault, e]; simp)
  rw [headSense, if_pos h0]
  exact first_all fun j hj => e_sense h hu hk (hx.2 j hj)

theorem s_sense {many i : Nat} {U : Nat → UnitD} (h : Heads many U) {u : UnitD} (hu : UnitHd i u) {k : Nat} (hk : k < 3) : ∀ {d len : Nat} {L : Nat → STree}, okS many (u.fs k).pl d len L → stmtsSense many U u (u.fs k) d len L = 0
  | 0, _, _, _ => rfl
  | d + 1, len, L, hL => first_all fun j hj => by
    obtain ⟨h0, h1, h2⟩ := hL j hj
    show (if headSense many U u (u.fs k) (L j []) = 0 then _ else _) = _
    rw [if_pos (head_sense h hu hk h0), if_pos (s_sense h hu hk h1), s_sense h hu hk h2]

theorem pp_ne {j i : Nat} (h : j < i) (hi : i < 2) : ((pp j).toList == (pp i).toList) = false := by
  obtain ⟨rfl, rfl⟩ : j = 0 ∧ i = 1 := by omega
  rw [toList_eq, toList_eq]; decide

theorem pars_once {i : Nat} {u : UnitD} (hu : UnitHd i u) {k : Nat} (hk : k < 3) : twiceB (u.fs k).ps (u.fs k).pl = false := once fun a b h1 h2 => by
  rw [hu.pars k hk a h2, hu.pars k hk b (by omega)]
  exact pp_ne h1 (by have := pl_le hu k hk; omega)
theorem funs_once {i : Nat} {u : UnitD} (hu : UnitHd i u) : twiceB (funcNames u) u.fl = false := by
  rw [hu.funs]
  have e0 := hu.f0.1
  have e1 := hu.f1.1
  have e2 := hu.f2.1
  refine once fun a b h1 h2 => ?_
  obtain ⟨rfl, rfl⟩ | ⟨rfl, rfl⟩ | ⟨rfl, rfl⟩ : (b = 0 ∧ a = 1) ∨ (b = 0 ∧ a = 2) ∨ (b = 1 ∧ a = 2) := by omega
  · show ((u.fs 0).name.toList == (u.fs 1).name.toList) = false
    rw [e0, e1, toList_eq, toList_eq]; decide
  · show ((u.fs 0).name.toList == (u.fs 2).name.toList) = false
    rw [e0, e2, toList_eq, toList_eq]; decide
  · show ((u.fs 1).name.toList == (u.fs 2).name.toList) = false
    rw [e1, e2, toList_eq, toList_eq]; decide
theorem words_once {i : Nat} {u : UnitD} (hu : UnitHd i u) : twiceB (both u.vl u.vs u.an) (u.vl + u.al) = false := by
  rw [hu.vars.1, hu.arrs.1]
  have e0 : both 2 u.vs u.an 0 = nx := by simp [both, hu.vars.2.1]
  have e1 : both 2 u.vs u.an 1 = ny := by simp [both, hu.vars.2.2]
  have e2 : both 2 u.vs u.an 2 = narr := by simp [both, hu.arrs.2.1]
  refine once fun a b h1 h2 => ?_
  obtain ⟨rfl, rfl⟩ | ⟨rfl, rfl⟩ | ⟨rfl, rfl⟩ : (b = 0 ∧ a = 1) ∨ (b = 0 ∧ a = 2) ∨ (b = 1 ∧ a = 2) := by omega
  · rw [e0, e1, toList_eq, toList_eq]; decide
  · rw [e0, e2, toList_eq, toList_eq]; decide
  · rw [e1, e2, toList_eq, toList_eq]; decide

theorem unit_words {i : Nat} {u : UnitD} (hu : UnitHd i u) : wordsOf u = 4 + i := by
  rw [wordsOf, hu.vars.1, hu.arrs.1]
  simp only [sizes, hu.arrs.2.2]
  omega

theorem all_words {many : Nat} {U : Nat → UnitD} (h : ∀ i, i < many → wordsOf (U i) ≤ 10) : ∀ n, n ≤ many → allWords U n ≤ 10 * n
  | 0, _ => by simp [allWords]
  | n + 1, hn => by
    have h1 := all_words h n (by omega)
    have h2 := h n (by omega)
    rw [allWords]
    omega

theorem units_once {many : Nat} {U : Nat → UnitD} (hm : many ≤ 3) (h : ∀ i, i < many → (U i).name = nu i) : twiceB (unitNames U) many = false := once fun a b h1 h2 => by
  show ((U b).name.toList == (U a).name.toList) = false
  rw [h a h2, h b (by omega)]
  exact nu_ne_nu (by omega) (by omega) (by omega)

/-- NOTHING IS REFUSED of a program of raw things -/
theorem program_fault {many : Nat} {U : Nat → UnitD} (h : Heads many U) (hb : ∀ i, i < many → ∀ k, k < 3 → BodyOk many ((U i).fs k)) : programFault many U = 0 := by
  have hm := h.1
  have hu : first (fun i => unitFault (U i)) many = 0 := first_all fun i hi => unit_fault (by omega) (h.2 i hi) fun k hk => ⟨s_fault (hb i hi k hk).1, Nat.le_trans (hb i hi k hk).2 (by omega)⟩
  have hw : allWords U many ≤ 10 * many := all_words (fun i hi => by rw [unit_words (h.2 i hi)]; omega) many (Nat.le_refl _)
  rw [programFault, if_pos (by omega), if_pos hu, if_neg (by rw [units_once hm fun i hi => (h.2 i hi).name]; decide), if_neg (by omega)]
  refine first_all fun i hi => ?_
  have hx := h.2 i hi
  rw [unitSense, if_neg (by rw [words_once hx, funs_once hx]; decide), hx.funs]
  refine first_all fun k hk => ?_
  rw [funcSense, if_neg (by rw [pars_once hx hk]; decide)]
  exact s_sense h hx hk (hb i hi k hk).1
end Go.Proofs.YtgjemlhnlpglbaaDoor.PPlain

namespace Go.Proofs.YtgjemlhnlpglbaaDoor.PRaw
open Go.RowKit PPlain Trees

/-- a raw thing -/
structure RawD where
  k : Int
  a : Int
  b : Int
  c : Int

/-- an int -/
def int64 (n : Int) : Prop := -9223372036854775808 ≤ n ∧ n ≤ 9223372036854775807

/-- its numbers are an int's -/
def RawD.fits (r : RawD) : Prop := int64 r.k ∧ int64 r.a ∧ int64 r.b ∧ int64 r.c

/-- raw things lie there in a row -/
def RRow (w : World) (ao : Option Addr) (len : Nat) (R : Nat → RawD) : Prop :=
  ∀ i, i < len → (∃ bl off, ao = some ⟨bl, off, none⟩ ∧ w.cell? ⟨bl, off + i * 4, none⟩ = some (.int .i64 (R i).k) ∧ w.cell? ⟨bl, off + i * 4 + 1, none⟩ = some (.int .i64 (R i).a) ∧
      w.cell? ⟨bl, off + i * 4 + 2, none⟩ = some (.int .i64 (R i).b) ∧ w.cell? ⟨bl, off + i * 4 + 3, none⟩ = some (.int .i64 (R i).c)) ∧ (R i).fits

theorem RRow_below {w w' : World} (hb : Below w.heap.size w w') {ao : Option Addr} {len : Nat} {R : Nat → RawD} (h : RRow w ao len R) : RRow w' ao len R := fun i hi => by
  obtain ⟨⟨bl, off, e, t0, t1, t2, t3⟩, r⟩ := h i hi
  have h0 := World.block_lt_of_cell? w _ t0
  exact ⟨⟨bl, off, e, (hb.cell h0).trans t0, (hb.cell (p := ⟨bl, off + i * 4 + 1, none⟩) h0).trans t1, (hb.cell (p := ⟨bl, off + i * 4 + 2, none⟩) h0).trans t2, (hb.cell (p := ⟨bl, off + i * 4 + 3, none⟩) h0).trans t3⟩, r⟩

/-- where a part of a list of raw things begins -/
def from_ (ao : Option Addr) (cap k : Nat) : Option Addr := if cap = k then ao else ao.map (·.add (k * 4))

theorem RRow_part {w : World} {ao : Option Addr} {len cap : Nat} {R : Nat → RawD} (h : RRow w ao len R) (hc : len ≤ cap) (k m : Nat) (hm : k + m ≤ len) : RRow w (from_ ao cap k) m fun i => R (i + k) := fun i hi => by
  obtain ⟨⟨bl, off, e, t0, t1, t2, t3⟩, r⟩ := h (i + k) (by omega)
  refine ⟨⟨bl, off + k * 4, ?_, ?_, ?_, ?_, ?_⟩, r⟩
  · rw [from_, if_neg (by omega), e]; simp [Addr.add]
  · rw [show off + k * 4 + i * 4 = off + (i + k) * 4 by omega]; exact t0
  · rw [show off + k * 4 + i * 4 + 1 = off + (i + k) * 4 + 1 by omega]; exact t1
  · rw [show off + k * 4 + i * 4 + 2 = off + (i + k) * 4 + 2 by omega]; exact t2
  · rw [show off + k * 4 + i * 4 + 3 = off + (i + k) * 4 + 3 by omega]; exact t3

theorem sizeRaw : (Tryd.prog.info? 44).map (·.size) = some 4 := by kernel_rfl

set_option maxRecDepth 100000 in
theorem slice_from (W : World) (ao : Option Addr) (len cap k : Nat) (i : Int) (hi : i = k) (hk : k ≤ len) :
    (Instr.slice 22 (.slice ao len cap) (some (.int .i64 i)) none none).run Tryd.prog W = .ok (.slice (from_ ao cap k) (len - k) (cap - k)) W := by
  subst hi
  obtain ⟨j, hj, hs⟩ := Option.map_eq_some_iff.1 sizeRaw
  rw [run_slice_l (ht := Tryd.underlying22) (h0 := by omega) (h1 := by omega)]
  have he : Tryd.prog.elem 22 = 44 := by kernel_rfl
  simp [he, sizeOf, typeInfo, hj, hs, Result.andThen, sliced, from_]

set_option maxRecDepth 100000 in
theorem slice_to (W : World) (ao : Option Addr) (len cap k : Nat) (i : Int) (hi : i = k) (hk : k ≤ cap) :
    (Instr.slice 22 (.slice ao len cap) none (some (.int .i64 i)) none).run Tryd.prog W = .ok (.slice (from_ ao cap 0) k cap) W := by
  subst hi
  obtain ⟨j, hj, hs⟩ := Option.map_eq_some_iff.1 sizeRaw
  rw [run_slice_h (ht := Tryd.underlying22) (h0 := by omega) (h2 := by omega)]
  have he : Tryd.prog.elem 22 = 44 := by kernel_rfl
  simp [he, sizeOf, typeInfo, hj, hs, Result.andThen, sliced, from_]

set_option maxRecDepth 100000 in
theorem slice_mid (W : World) (ao : Option Addr) (len cap k m : Nat) (i j : Int) (hi : i = k) (hj : j = m) (hk : k ≤ m) (hm : m ≤ cap) :
    (Instr.slice 22 (.slice ao len cap) (some (.int .i64 i)) (some (.int .i64 j)) none).run Tryd.prog W = .ok (.slice (from_ ao cap k) (m - k) (cap - k)) W := by
  subst hi hj
  obtain ⟨j, hj, hs⟩ := Option.map_eq_some_iff.1 sizeRaw
  rw [run_slice_lh (ht := Tryd.underlying22) (h0 := by omega) (h1 := by omega) (h2 := by omega)]
  have he : Tryd.prog.elem 22 = 44 := by kernel_rfl
  simp [he, sizeOf, typeInfo, hj, hs, Result.andThen, sliced, from_]

/-- a number from 0 to m - 1 -/
def pk (n m : Int) : Int := (if n < 0 then -(n + 1) else n) % m

theorem pk_bd (n m : Int) (h : 0 < m) : 0 ≤ pk n m ∧ pk n m < m := ⟨Int.emod_nonneg _ (by omega), Int.emod_lt_of_pos _ h⟩

theorem picked (n m : Int) (w : World) (hb : int64 n) (hm : 0 < m) (hm' : m ≤ 9223372036854775807) :
    Calls Tryd.prog 8 #[.int .i64 n, .int .i64 m] w fun e w' => e = .returned (.int .i64 (pk n m)) ∧ w' = w := by
  obtain ⟨hb1, hb2⟩ := hb
  have he : pk n m = (if n < 0 then -(n + 1) else n) % m := rfl
  have hm2 : (m == 0) = false := beq_eq_false_iff_ne.2 (by omega)
  have hm3 : (m == -1) = false := beq_eq_false_iff_ne.2 (by omega)
  by_cases c : n < 0
  · rw [if_pos c] at he
    go_enter Tryd.func8, Tryd.ntmps8
    go_wp2
    go_ret
    exact ⟨by rw [he]; simp; rw [← Int.neg_tmod]; exact Int.tmod_eq_emod_of_nonneg (by omega), rfl⟩
  · rw [if_neg c] at he
    go_enter Tryd.func8, Tryd.ntmps8
    go_wp2
    go_ret
    exact ⟨rfl, rfl⟩

theorem got1 (w : World) (a : Obj) : (w.alloc a).heap[w.heap.size]? = some a := heap_alloc_new w a
theorem got2 (w : World) (a b : Obj) : ((w.alloc a).alloc b).heap[w.heap.size + 1]? = some b := by
  have := heap_alloc_new (w.alloc a) b
  rwa [show (w.alloc a).heap.size = w.heap.size + 1 by simp] at this
theorem got_old (w : World) (a : Obj) {i : Nat} {x : Obj} (h : w.heap[i]? = some x) : (w.alloc a).heap[i]? = some x := (Below.heap_alloc w a i (Array.getElem?_eq_some_iff.1 h).1).trans h
theorem below_a (w : World) (a : Obj) : Below w.heap.size w (w.alloc a) := (Below.refl _ _).alloc (Nat.le_refl _) _
theorem below_aa (w : World) (a b : Obj) : Below w.heap.size w ((w.alloc a).alloc b) := (below_a w a).alloc (by simp) _
theorem below_aaa (w : World) (a b c : Obj) : Below w.heap.size w (((w.alloc a).alloc b).alloc c) := (below_aa w a b).alloc (by simp; omega) _

theorem sizeExpr : (Tryd.prog.info? 29).map (·.size) = some 5 := by kernel_rfl
/-- a function that answers the struct in a cell of its own -/
theorem answers {f : Func} {p : Tmp} (hf : f.results = #[.cell p 29]) {tmps : Array Value} {W : World} {g : Nat} {cs : Array Value} {fr : Nat × Nat} {ds : List Deferred} {Q : Ending → World → Prop} (hp : tmps.getD p undef = .pointer (some ⟨g, 0, none⟩)) (hg : W.heap[g]? = some (.cells cs 29 fr)) (hs : cs.size = 5) (hd : ds = []) (h : Q (.returned (.agg cs)) W) :
    bodyPost Tryd.prog f Q Exit.ret ⟨tmps, ds⟩ W := by
  subst hd
  exact bodyPost_ret (results_cell_row hf _ _ g 29 cs fr _ hp hg Tryd.underlying29 rfl (by rw [sizeExpr, hs])) rfl h
end Go.Proofs.YtgjemlhnlpglbaaDoor.PRaw
