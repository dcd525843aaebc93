/-
  WHAT barbicankeep.Expr GIVES, at every depth: an expression of which nothing is refused, in new memory.
  Conditions: the raw things, the params and the units' names lie there; so many depths are left.
  WHAT barbicankeep.Stmts GIVES, SAID: statements of which nothing is refused, in new memory; the row that they are gathered in.
  Conditions: each lemma's own.
-/
import Derived.Test.YtgjemlhnlpglbaaDoorR7
import Derived.Test.YtgjemlhnlpglbaaDoorR8
import Derived.Test.YtgjemlhnlpglbaaDoorR9
import Derived.Test.YtgjemlhnlpglbaaDoorR10
import Derived.Test.YtgjemlhnlpglbaaDoorR11
import Derived.Test.YtgjemlhnlpglbaaDoorR12
import Derived.Test.YtgjemlhnlpglbaaDoorR13
import Derived.Test.YtgjemlhnlpglbaaDoorR14
import Derived.Test.YtgjemlhnlpglbaaDoorR15
import Derived.Test.YtgjemlhnlpglbaaDoorR16
import Derived.Test.YtgjemlhnlpglbaaDoorR17
import Derived.Test.YtgjemlhnlpglbaaDoorR18
namespace Go.Proofs.YtgjemlhnlpglbaaDoor.PExpr
open Go.RowKit PPlain PRaw PNumber PExprBase Trees

theorem dt {p : Prop} [Decidable p] (h : p) : decide p = true := decide_eq_true h
theorem df {p : Prop} [Decidable p] (h : ¬ p) : decide p = false := decide_eq_false h

theorem expr {many : Nat} (hmany : 1 ≤ many ∧ many ≤ 3) : ∀ d, EC d many := by
  intro d
  induction d with
  | zero => intro dep w la pa ln lc pl pc h1 h5 h6; omega
  | succ d ih =>
    intro dep w la pa ln lc pl pc h1 h5 h6 hl hp hpl hn
    rcases ln with _ | m
    · exact PExprNone.way
    obtain ⟨hlc, hlm, R, hR⟩ := hl
    obtain ⟨⟨bl, off, ea, t0, t1, t2, t3⟩, hr⟩ := hR 0 (by omega)
    rw [Nat.zero_mul, Nat.add_zero] at t0 t1 t2 t3
    subst ea
    obtain ⟨c, rfl⟩ : ∃ c, lc = c + 1 := ⟨lc - 1, by omega⟩
    have hL : Raws w (some ⟨bl, off, none⟩) (m + 1) (c + 1) := ⟨hlc, hlm, R, hR⟩
    have hm : m ≤ c := by omega
    have hm2 : m ≤ 140737488355328 := by omega
    have hdd : 6 ≤ dep + 1 + d := by omega
    generalize R 0 = r at *
    obtain ⟨hk0, hk20⟩ := pk_bd r.k 20 (by decide)
    obtain ⟨_, hk9⟩ := pk_bd r.k 9 (by decide)
    by_cases hd : 4 < dep
    · by_cases q4 : pk r.k 9 < 4
      · exact PExprNumD.way hr h1 h5 hdd hm hm2 hmany t0 t1 t2 t3 hL hp hpl hn ih (dt hd) (dt q4)
      · obtain rfl | rfl | rfl : pl = 0 ∨ pl = 1 ∨ pl = 2 := by omega
        · exact PExprVarD0.way hr h1 h5 hdd hm hm2 hmany t0 t1 t2 t3 hL hp hn ih (dt hd) (df q4) (dt hk9)
        · exact PExprVarD1.way hr h1 h5 hdd hm hm2 hmany t0 t1 t2 t3 hL hp hn ih (dt hd) (df q4) (dt hk9)
        · exact PExprVarD2.way hr h1 h5 hdd hm hm2 hmany t0 t1 t2 t3 hL hp hn ih (dt hd) (df q4) (dt hk9)
    · by_cases q4 : pk r.k 20 < 4
      · exact PExprNum.way hr h1 h5 hdd hm hm2 hmany t0 t1 t2 t3 hL hp hpl hn ih (df hd) (dt q4)
      by_cases q9 : pk r.k 20 < 9
      · obtain rfl | rfl | rfl : pl = 0 ∨ pl = 1 ∨ pl = 2 := by omega
        · exact PExprVar0.way hr h1 h5 hdd hm hm2 hmany t0 t1 t2 t3 hL hp hn ih (df hd) (df q4) (dt q9)
        · exact PExprVar1.way hr h1 h5 hdd hm hm2 hmany t0 t1 t2 t3 hL hp hn ih (df hd) (df q4) (dt q9)
        · exact PExprVar2.way hr h1 h5 hdd hm hm2 hmany t0 t1 t2 t3 hL hp hn ih (df hd) (df q4) (dt q9)
      by_cases q15 : pk r.k 20 < 15
      · exact PExprTwo.way hr h1 h5 hdd hm hm2 hmany t0 t1 t2 t3 hL hp hpl hn ih (df hd) (df q4) (df q9) (dt q15)
      by_cases q17 : pk r.k 20 < 17
      · exact PExprElem.way hr h1 h5 hdd hm hm2 hmany t0 t1 t2 t3 hL hp hpl hn ih (df hd) (df q4) (df q9) (df q15) (dt q17)
      by_cases e17 : pk r.k 20 = 17
      · exact PExprG.way hr h1 h5 hdd hm hm2 hmany t0 t1 t2 t3 hL hp hpl hn ih (df hd) (df q4) (df q9) (df q15) (df q17) (by rw [e17]; rfl)
      by_cases e18 : pk r.k 20 = 18
      · exact PExprF.way hr h1 h5 hdd hm hm2 hmany t0 t1 t2 t3 hL hp hpl hn ih (df hd) (df q4) (df q9) (df q15) (df q17) (beq_eq_false_iff_ne.2 e17) (by rw [e18]; rfl)
      · exact PExprH.way hr h1 h5 hdd hm hm2 hmany t0 t1 t2 t3 hL hp hpl hn ih (df hd) (df q4) (df q9) (df q15) (df q17) (beq_eq_false_iff_ne.2 e17) (beq_eq_false_iff_ne.2 e18)
end Go.Proofs.YtgjemlhnlpglbaaDoor.PExpr

namespace Go.Proofs.YtgjemlhnlpglbaaDoor.PStmtBase
open Go.RowKit PPlain PRaw PNumber PExprBase Trees
open Go.Proofs.YtgjemlhnlpglbaaDoor.Bytes (cell_of_heap)

/-- the blocks from B on are as they were, but for the row's own one -/
def AgreeX (B : Nat) (w : World) (v : Value) (W : World) : Prop := ∀ b, B ≤ b → b < w.heap.size → v.ownBlock ≠ some b → W.heap[b]? = w.heap[b]?

theorem AgreeX.less {B : Nat} {w w2 : World} {v : Value} {W : World} (h : AgreeX B w2 v W) (hz : w.heap.size ≤ w2.heap.size) (hb : ∀ b, B ≤ b → b < w.heap.size → v.ownBlock ≠ some b → w2.heap[b]? = w.heap[b]?) : AgreeX B w v W :=
  fun b h1 h2 h3 => (h b h1 (by omega) h3).trans (hb b h1 h2 h3)
theorem AgreeX.below {B : Nat} {w w2 : World} {v : Value} {W : World} (h : AgreeX B w2 v W) (hb : Below w.heap.size w w2) : AgreeX B w v W := h.less hb.size fun b _ h2 _ => hb.block b h2
theorem AgreeX.grown {B : Nat} {w w2 : World} {v v' : Value} {W : World} (h : AgreeX B w2 v' W) (hg : w.grownBy w2 v.ownBlock) (hz : w.heap.size ≤ w2.heap.size) (ho : v.ownBlock = v'.ownBlock ∨ v'.ownBlock = some w.heap.size) : AgreeX B w v W :=
  fun b h1 h2 h3 => by
    have hne : v'.ownBlock ≠ some b := by
      rcases ho with ho | ho
      · rw [← ho]; exact h3
      · rw [ho]; intro e; injection e with e; omega
    exact (h b h1 (by omega) hne).trans (hg.block b h2 fun e => h3 e.symm)

/-- a statement by itself: nothing is refused of it, nor of those within it -/
def StOk (many pl d : Nat) (T : STree) : Prop := headOk many pl (T []) ∧ okS many pl d (T []).bl (inBody T) ∧ okS many pl d (T []).ll (inElse T)
/-- how many statements it is, those within it too -/
def cnt (d : Nat) (T : STree) : Nat := 1 + (count d (T []).bl (inBody T) + count d (T []).ll (inElse T))

theorem sum_le {f g : Nat → Nat} : ∀ {n : Nat}, (∀ i, i < n → f i = g i) → sum f n = sum g n
  | 0, _ => rfl
  | n + 1, h => by rw [sum, sum, sum_le fun i hi => h i (by omega), h n (by omega)]
theorem count_cnt (d : Nat) : ∀ (n : Nat) (L : Nat → STree), count (d + 1) n L = sum (fun i => cnt d (L i)) n := by
  intro n L
  show n + sum (fun i => count d (L i []).bl (inBody (L i)) + count d (L i []).ll (inElse (L i))) n = _
  induction n with
  | zero => rfl
  | succ n ih =>
    rw [sum, sum, ← ih]
    unfold cnt
    omega

/-- a statement's cells -/
def fiveS (x : SNode) : List Value := [.int .i64 x.kind, .string x.s, .slice x.ea x.el x.ec, .slice x.ba x.bl x.bc, .slice x.la x.ll x.lc]

/-- statements that are gathered in a row of one's own -/
def ORow (B : Nat) (w : World) (v : Value) (n : Nat) (L : Nat → STree) (many pl d : Nat) : Prop :=
  ∃ xs, w.ownsRow B 34 5 v n xs ∧ (∀ i, i < n → ∀ j, j < 5 → xs[i * 5 + j]? = (fiveS (L i []))[j]?) ∧ (∀ i, i < n → StOk many pl d (L i)) ∧ ∀ i, i < n → ∀ W, AgreeX B w v W → SLies W d (L i)

theorem ORow_nil (B : Nat) (w : World) (L : Nat → STree) (many pl d : Nat) : ORow B w (.slice none 0 0) 0 L many pl d :=
  ⟨[], World.ownsRow_nil _ _ _ _, fun i hi => absurd hi (by omega), fun i hi => absurd hi (by omega), fun i hi => absurd hi (by omega)⟩

theorem ORow_below {B n : Nat} {w w2 : World} {v : Value} {L : Nat → STree} {many pl d : Nat} (h : ORow B w v n L many pl d) (hb : Below w.heap.size w w2) : ORow B w2 v n L many pl d := by
  obtain ⟨xs, ho, hx, hok, hs⟩ := h
  refine ⟨xs, ⟨ho.1, ho.2.elim .inl fun ⟨g, cap, cur, h1, h2, h3, h4⟩ => .inr ⟨g, cap, cur, h1, h2, (hb.block g (Array.getElem?_eq_some_iff.1 h3).1).trans h3, h4⟩⟩, hx, hok, fun i hi W hW => hs i hi W (hW.below hb)⟩

/-- a row with one more -/
def put (L : Nat → STree) (n : Nat) (T : STree) : Nat → STree := fun i => if i = n then T else L i
theorem put_old {L : Nat → STree} {n : Nat} {T : STree} {i : Nat} (h : i < n) : put L n T i = L i := by unfold put; rw [if_neg (by omega)]
theorem put_new (L : Nat → STree) (n : Nat) (T : STree) : put L n T n = T := by unfold put; rw [if_pos rfl]
theorem sum_put (d : Nat) (L : Nat → STree) (n : Nat) (T : STree) : sum (fun i => cnt d (put L n T i)) (n + 1) = sum (fun i => cnt d (L i)) n + cnt d T := by
  rw [sum, put_new, sum_le fun i hi => by rw [put_old hi]]

theorem ORow_next {B n : Nat} {w w2 : World} {v v' : Value} {L : Nat → STree} {many pl d : Nat} {xs : List Value} {T : STree} (hx : ∀ i, i < n → ∀ j, j < 5 → xs[i * 5 + j]? = (fiveS (L i []))[j]?) (hl : xs.length = n * 5) (hok : ∀ i, i < n → StOk many pl d (L i)) (hs : ∀ i, i < n → ∀ W, AgreeX B w v W → SLies W d (L i))
    (ho' : w2.ownsRow B 34 5 v' (n + 1) (xs ++ fiveS (T []))) (hg : w.grownBy w2 v.ownBlock) (hz : w.heap.size ≤ w2.heap.size) (hat : v.ownBlock = v'.ownBlock ∨ v'.ownBlock = some w.heap.size) (hT : StOk many pl d T) (hTs : ∀ W, AgreeX B w v W → SLies W d T) :
    ORow B w2 v' (n + 1) (put L n T) many pl d := by
  refine ⟨_, ho', fun i hi j hj => ?_, fun i hi => ?_, fun i hi W hW => ?_⟩
  · rcases Nat.lt_or_ge i n with h | h
    · rw [put_old h, List.getElem?_append_left (by omega), hx i h j hj]
    · obtain rfl : i = n := by omega
      rw [put_new, List.getElem?_append_right (by omega), hl, show i * 5 + j - i * 5 = j by omega]
  · rcases Nat.lt_or_ge i n with h | h
    · rw [put_old h]; exact hok i h
    · obtain rfl : i = n := by omega
      rw [put_new]; exact hT
  · have hW' := hW.grown hg hz hat
    rcases Nat.lt_or_ge i n with h | h
    · rw [put_old h]; exact hs i h W hW'
    · obtain rfl : i = n := by omega
      rw [put_new]; exact hTs W hW'

/-- the row, as statements that lie there -/
theorem ORow_row {B n : Nat} {w : World} {v : Value} {L : Nat → STree} {many pl d : Nat} (hn : ORow B w v n L many pl d) : ∃ ao cap, v = .slice ao n cap ∧ okS many pl (d + 1) n L ∧ ∀ W, Agree B w.heap.size w W → SRow W (d + 1) ao n L := by
  obtain ⟨xs, ho, hx, hok, hs⟩ := hn
  have hag : ∀ W, Agree B w.heap.size w W → AgreeX B w v W := fun W h b h1 h2 _ => h b h1 h2
  rcases ho.2 with ⟨rfl, rfl⟩ | ⟨g, cap, cur, hv, hB, hg, r⟩
  · exact ⟨none, 0, rfl, fun i hi => absurd hi (by omega), fun W _ i hi => absurd hi (by omega)⟩
  · have hlt := (Array.getElem?_eq_some_iff.1 hg).1
    refine ⟨some ⟨g, 0, none⟩, cap, hv, fun i hi => hok i hi, fun W hW i hi => ?_⟩
    have hWo : W.ownsRow B 34 5 v n xs := ⟨ho.1, .inr ⟨g, cap, cur, hv, hB, (hW g hB hlt).trans hg, r⟩⟩
    have cell : ∀ j, j < 5 → W.cell? ⟨g, 0 + i * 5 + j, none⟩ = (fiveS (L i []))[j]? := fun j hj => by
      have e := hx i hi j hj
      obtain ⟨u, hu⟩ : ∃ u, (fiveS (L i []))[j]? = some u := by
        obtain rfl | rfl | rfl | rfl | rfl : j = 0 ∨ j = 1 ∨ j = 2 ∨ j = 3 ∨ j = 4 := by omega
        all_goals exact ⟨_, rfl⟩
      rw [hu] at e ⊢
      have := hWo.cells (g := g) (by rw [hv]; rfl) (i * 5 + j) u e
      rw [add_off, Nat.zero_add] at this
      rw [Nat.zero_add]
      exact this
    have hl := hs i hi W (hag W hW)
    exact ⟨⟨g, 0, rfl, cell 0 (by decide), cell 1 (by decide), cell 2 (by decide), cell 3 (by decide), cell 4 (by decide)⟩, hl⟩

/-- so many statements at most, by the depth and the number of raw things -/
def per (dep : Int) : Nat := if dep = 1 then 7 else if dep = 2 then 3 else 1
def bnd (dep : Int) (ln : Nat) : Nat := per dep * if ln ≤ 6 then 1 else 4

/-- what comes out: statements of which nothing is refused -/
def SOut (w : World) (many pl d c : Nat) (e : Ending) (w' : World) : Prop :=
  Below w.heap.size w w' ∧ ∃ (ao : Option Addr) (n cap : Nat) (L : Nat → STree), e = .returned (.slice ao n cap) ∧ n ≤ 1000 ∧ okS many pl d n L ∧ count d n L ≤ c ∧ (∀ W, Agree w.heap.size w'.heap.size w' W → SRow W d ao n L) ∧ ∃ d', d = d' + 1 ∧ ORow w.heap.size w' (.slice ao n cap) n L many pl d'

/-- the contract, with so many depths left -/
def SC (d many : Nat) : Prop := ∀ (dep : Int) (w : World) (la pa : Option Addr) (ln lc pl pc : Nat), 1 ≤ dep → dep ≤ 3 → 5 ≤ dep + d → Raws w la ln lc → PPar w pa pl → pl ≤ 2 → Names w →
  Calls Tryd.prog 14 #[.slice la ln lc, .slice pa pl pc, .int .i64 many, .int .i64 dep] w fun e w' => SOut w many pl d (bnd dep ln) e w'

/-- at a round's head -/
def Head (w : World) (many pl d : Nat) (dep : Int) (ln0 : Nat) (l v n : Value) (W : World) : Prop :=
  ∃ (k : Nat) (la : Option Addr) (ln lc nS : Nat) (L : Nat → STree), l = .slice la ln lc ∧ n = .int .i64 k ∧ k ≤ 4 ∧ Raws w la ln lc ∧ Below w.heap.size w W ∧ ORow w.heap.size W v nS L many pl d ∧ sum (fun i => cnt d (L i)) nS ≤ per dep * k ∧ (ln0 ≤ 6 → k = 0 ∨ (k ≤ 1 ∧ ln = 0)) ∧ nS ≤ 2 * k ∧ ln ≤ ln0

/-- a part of at most six raw things -/
def PartOk (W : World) (s : Value) : Prop := ∃ l n c, s = .slice l n c ∧ Raws W l n c ∧ n ≤ 6
/-- what is left of the raw things -/
def RestOk (w : World) (m : Nat) (s : Value) : Prop := ∃ l n c, s = .slice l n c ∧ Raws w l n c ∧ (m + 1 ≤ 7 → n = 0) ∧ n ≤ m + 1
/-- the variables' names -/
def VarsOk (W : World) (pl : Nat) (s : Value) (w : World) : Prop := Below W.heap.size W w ∧ ∃ g c, s = .slice (some ⟨g, 0, none⟩) (2 + pl) c ∧ g < w.heap.size ∧ ∀ k, k < 2 + pl → w.cell? ⟨g, k, none⟩ = some (.string (vz k))

theorem vars0 {W : World} : VarsOk W 0 (.slice (some ⟨W.heap.size, 0, none⟩) 2 2) (W.alloc (.cells #[.string ⟨#[120]⟩, .string ⟨#[121]⟩] 9)) :=
  ⟨below_a W _, _, _, rfl, by simp, fun k hk => by
    have hg := got1 W (.cells #[.string ⟨#[120]⟩, .string ⟨#[121]⟩] 9)
    obtain rfl | rfl : k = 0 ∨ k = 1 := by omega
    · exact cell_of_heap hg rfl
    · exact cell_of_heap hg rfl⟩
theorem vars_owns (W : World) : World.ownsRow (W.alloc (.cells #[.string ⟨#[120]⟩, .string ⟨#[121]⟩] 9)) W.heap.size 9 1 (.slice (some ⟨W.heap.size, 0, none⟩) 2 2) 2 [.string ⟨#[120]⟩, .string ⟨#[121]⟩] :=
  ⟨rfl, .inr ⟨_, 2, _, rfl, Nat.le_refl _, got1 W _, Nat.le_refl _, by unfold maxLen; decide, rfl, rfl⟩⟩
theorem varsN {W w9 : World} {v' : Value} {pl : Nat} (ho : w9.ownsRow W.heap.size 9 1 v' (2 + pl) ([.string ⟨#[120]⟩, .string ⟨#[121]⟩] ++ pars pl)) (hg : World.grownBy (W.alloc (.cells #[.string ⟨#[120]⟩, .string ⟨#[121]⟩] 9)) w9 (Value.slice (some ⟨W.heap.size, 0, none⟩) 2 2).ownBlock) : VarsOk W pl v' w9 := by
  obtain ⟨g, c, rfl, hc⟩ := own_form ho rfl
  exact ⟨(below_a W _).grown hg (by simp) (fun g e => by simp [Value.ownBlock] at e; omega), g, c, rfl, World.block_lt_of_cell? w9 _ (hc 0 (by omega)), hc⟩

/-- the first statement: a variable is set -/
def Made (W0 : World) (_ : Nat) (k n : Int) (of_ s_ : ByteArray) (ao : Option Addr) (len cap : Nat) (vn : ByteArray) (s15 : Value) (w : World) : Prop :=
  Below W0.heap.size W0 w ∧ ∃ b15 be, s15 = .pointer (some ⟨b15, 0, none⟩) ∧ W0.heap.size ≤ b15 ∧ W0.heap.size ≤ be ∧ b15 ≠ be ∧ w.heap[b15]? = some (.cells #[.int .i64 1, .string vn, .slice (some ⟨be, 0, none⟩) 1 1, .slice none 0 0, .slice none 0 0] 34) ∧ w.heap[be]? = some (.cells #[.int .i64 k, .int .i64 n, .string of_, .string s_, .slice ao len cap] 29)

theorem made_eb {W0 : World} {b14 : Nat} {k n : Int} {of_ s_ : ByteArray} {ao : Option Addr} {len cap : Nat} {vn : ByteArray} : Made W0 b14 k n of_ s_ ao len cap vn (.pointer (some ⟨W0.heap.size + 1, 0, none⟩)) ((W0.alloc (.cells #[.int .i64 k, .int .i64 n, .string of_, .string s_, .slice ao len cap] 29)).alloc (.cells #[.int .i64 1, .string vn, .slice (some ⟨W0.heap.size, 0, none⟩) 1 1, .slice none 0 0, .slice none 0 0] 34)).drew :=
  ⟨(below_aa W0 _ _).drew, _, _, rfl, by omega, Nat.le_refl _, by omega, got2 W0 _ _, got_old _ _ (got1 W0 _)⟩
theorem made_be {W0 : World} {b14 : Nat} {k n : Int} {of_ s_ : ByteArray} {ao : Option Addr} {len cap : Nat} {vn : ByteArray} : Made W0 b14 k n of_ s_ ao len cap vn (.pointer (some ⟨W0.heap.size, 0, none⟩)) ((W0.alloc (.cells #[.int .i64 1, .string vn, .slice (some ⟨W0.heap.size + 1, 0, none⟩) 1 1, .slice none 0 0, .slice none 0 0] 34)).alloc (.cells #[.int .i64 k, .int .i64 n, .string of_, .string s_, .slice ao len cap] 29)).drew :=
  ⟨(below_aa W0 _ _).drew, _, _, rfl, Nat.le_refl _, by omega, by omega, got_old _ _ (got1 W0 _), got2 W0 _ _⟩

/-- the cells of a statement -/
def cellsS (x : SNode) : Array Value := #[.int .i64 x.kind, .string x.s, .slice x.ea x.el x.ec, .slice x.ba x.bl x.bc, .slice x.la x.ll x.lc]

/-- behind the switch: the statement lies in its box, and what it names in what was laid in this round; the row is as it was, or has one more -/
def Done_ (w : World) (many pl d : Nat) (dep : Int) (k b15 : Nat) (v : Value) (W : World) : Prop :=
  Below w.heap.size w W ∧ ∃ (nS : Nat) (L : Nat → STree) (T : STree), ORow w.heap.size W v nS L many pl d ∧ sum (fun i => cnt d (L i)) nS + cnt d T ≤ per dep * (k + 1) ∧ nS ≤ 2 * k + 1 ∧
    W.heap[b15]? = some (.cells (cellsS (T [])) 34) ∧ v.ownBlock ≠ some b15 ∧ w.heap.size ≤ b15 ∧ StOk many pl d T ∧ ∀ W', AgreeX w.heap.size W v W' → SLies W' d T

/-- a statement out of a node -/
def leafS (x : SNode) (Bd El : Nat → STree) : STree
  | [] => x
  | (false, i) :: p => Bd i p
  | (true, i) :: p => El i p
theorem leafS_body (x : SNode) (Bd El : Nat → STree) (i : Nat) : inBody (leafS x Bd El) i = Bd i := rfl
theorem leafS_else (x : SNode) (Bd El : Nat → STree) (i : Nat) : inElse (leafS x Bd El) i = El i := rfl

theorem okS_none {many pl d : Nat} (h : 1 ≤ d) (L : Nat → STree) : okS many pl d 0 L := by
  obtain ⟨d, rfl⟩ : ∃ e, d = e + 1 := ⟨d - 1, by omega⟩
  exact fun i hi => absurd hi (by omega)
theorem count_none {d : Nat} (L : Nat → STree) : count d 0 L = 0 := by
  cases d with
  | zero => rfl
  | succ d => rfl
theorem SRow_none {W : World} {d : Nat} {ao : Option Addr} (L : Nat → STree) : SRow W d ao 0 L := by
  cases d with
  | zero => trivial
  | succ d => exact fun i hi => absurd hi (by omega)

theorem setRow_below {B g : Nat} {W0 W : World} {cs : Array Value} (h : Below B W0 W) (hg : B ≤ g) : Below B W0 (W.setRow g cs) := h.trans ⟨rfl, rfl, rfl, by simp [World.setRow], fun k hk => setRow_other _ _ _ _ (by omega)⟩
theorem sizeStmt : (Tryd.prog.info? 34).map (·.size) = some 5 := by kernel_rfl

/-- expressions lie in a block, whole -/
theorem rowX {W : World} {v : Value} {many pl n B be : Nat} {cs : Array Value} {t : TypeId} {fr : Nat × Nat} {C : Nat → ETree} (hB : B ≤ be) (hF : W.heap[be]? = some (.cells cs t fr)) (hv : v.ownBlock ≠ some be)
    (hc : ∀ i, i < n → ∀ j, j < 5 → cs[i * 5 + j]? = (five (C i []))[j]?) (hok : ∀ i, i < n → okE many pl 12 (C i)) (hs : ∀ i, i < n → ∀ W', AgreeX B W v W' → ELies W' 12 (C i)) :
    ∀ W', AgreeX B W v W' → ERow W' (some ⟨be, 0, none⟩) n C 12 := by
  intro W' hW i hi
  have hlt := (Array.getElem?_eq_some_iff.1 hF).1
  have hg : W'.heap[be]? = some (.cells cs t fr) := (hW be hB hlt hv).trans hF
  have cell : ∀ j, j < 5 → W'.cell? ⟨be, 0 + i * 5 + j, none⟩ = (five (C i []))[j]? := fun j hj => by
    rw [← hc i hi j hj]; simp [World.cell?, hg]
  exact ⟨⟨be, 0, rfl, cell 0 (by decide), cell 1 (by decide), cell 2 (by decide), cell 3 (by decide), cell 4 (by decide)⟩, okE_size (hok i hi), hs i hi W' hW⟩

theorem five_one {T : ETree} {k n : Int} {of_ s_ : ByteArray} {ao : Option Addr} {len cap : Nat} (h : T [] = ⟨k, n, of_, s_, ao, len, cap⟩) : ∀ i, i < 1 → ∀ j, j < 5 → (#[.int .i64 k, .int .i64 n, .string of_, .string s_, .slice ao len cap] : Array Value)[i * 5 + j]? = (five (one1 T i []))[j]? := by
  intro i hi j hj
  obtain rfl : i = 0 := by omega
  show _ = (five (T []))[j]?
  rw [h]
  obtain rfl | rfl | rfl | rfl | rfl : j = 0 ∨ j = 1 ∨ j = 2 ∨ j = 3 ∨ j = 4 := by omega
  all_goals rfl

/-- a statement without others within it -/
theorem done_leaf {w W : World} {many pl d k b15 nS : Nat} {dep : Int} {v : Value} {L : Nat → STree} (hB : Below w.heap.size w W) (hO : ORow w.heap.size W v nS L many pl d) (hsum : sum (fun i => cnt d (L i)) nS ≤ per dep * k) (hn : nS ≤ 2 * k) (hd : 1 ≤ d)
    {x : SNode} (hx : W.heap[b15]? = some (.cells (cellsS x) 34)) (hv : v.ownBlock ≠ some b15) (hb : w.heap.size ≤ b15) (hbl : x.bl = 0) (hll : x.ll = 0) (hh : headOk many pl x) (hsz : x.s.size ≤ maxLen ∧ x.el ≤ maxLen) (hrow : ∀ W', AgreeX w.heap.size W v W' → ERow W' x.ea x.el x.ex 12) :
    Done_ w many pl d dep k b15 v W := by
  obtain ⟨kind, s, ea, el, ec, ex, ba, bl, bc, la, ll, lc⟩ := x
  dsimp only at hbl hll hsz hrow
  subst hbl hll
  have hper : 1 ≤ per dep := by
    unfold per
    split
    · omega
    · split <;> omega
  refine ⟨hB, nS, L, leafS ⟨kind, s, ea, el, ec, ex, ba, 0, bc, la, 0, lc⟩ (fun _ _ => ⟨kind, s, ea, el, ec, ex, ba, 0, bc, la, 0, lc⟩) (fun _ _ => ⟨kind, s, ea, el, ec, ex, ba, 0, bc, la, 0, lc⟩), hO, ?_, by omega, hx, hv, hb, ⟨hh, okS_none hd _, okS_none hd _⟩, fun W' hW => ⟨⟨hsz.1, hsz.2, Nat.zero_le _, Nat.zero_le _⟩, hrow W' hW, SRow_none _, SRow_none _⟩⟩
  have e : cnt d (leafS ⟨kind, s, ea, el, ec, ex, ba, 0, bc, la, 0, lc⟩ (fun _ _ => ⟨kind, s, ea, el, ec, ex, ba, 0, bc, la, 0, lc⟩) (fun _ _ => ⟨kind, s, ea, el, ec, ex, ba, 0, bc, la, 0, lc⟩)) = 1 := by
    show 1 + (count d 0 _ + count d 0 _) = 1
    rw [count_none, count_none]
  rw [e, Nat.mul_add, Nat.mul_one]
  omega

theorem le1 : 1 ≤ maxLen := by unfold maxLen; decide
theorem leArr : (⟨#[97, 114, 114]⟩ : ByteArray).size ≤ maxLen := by unfold maxLen; decide
theorem le2 : 2 ≤ maxLen := by unfold maxLen; decide
theorem le0 : (⟨#[]⟩ : ByteArray).size ≤ maxLen := by unfold maxLen; decide

/-- the statement is laid into its box, behind what it names -/
theorem boxed {w wr W11 : World} {many pl d k b15 nS : Nat} {dep : Int} {v : Value} {L : Nat → STree} {T9 : ETree} {xk xn : Int} {xof xs : ByteArray} {xao : Option Addr} {xlen xcap : Nat} {old : Array Value} {kind : Int}
    (hw : Below w.heap.size w wr) (hr : Below wr.heap.size wr W11) (hb : wr.heap.size ≤ b15) (hold : W11.heap[b15]? = some (.cells old 34)) (hv : ∀ b, wr.heap.size ≤ b → v.ownBlock ≠ some b) (hO : ∀ W, Below wr.heap.size wr W → ORow w.heap.size W v nS L many pl d)
    (hsum : sum (fun i => cnt d (L i)) nS ≤ per dep * k) (hn : nS ≤ 2 * k) (hd : 1 ≤ d) (hx : T9 [] = ⟨xk, xn, xof, xs, xao, xlen, xcap⟩) (hok : okE many pl 12 T9) (hk : kind = 5 ∨ kind = 6)
    (hs2 : ∀ cs W', AgreeX w.heap.size ((W11.alloc (.cells #[.int .i64 xk, .int .i64 xn, .string xof, .string xs, .slice xao xlen xcap] 29)).setRow b15 cs) v W' → ELies W' 12 T9) :
    Done_ w many pl d dep k b15 v ((W11.alloc (.cells #[.int .i64 xk, .int .i64 xn, .string xof, .string xs, .slice xao xlen xcap] 29)).setRow b15 #[.int .i64 kind, .string ⟨#[]⟩, .slice (some ⟨W11.heap.size, 0, none⟩) 1 1, .slice none 0 0, .slice none 0 0]) := by
  have hlt := (Array.getElem?_eq_some_iff.1 hold).1
  have hz := hr.size
  have hzw := hw.size
  have h1 : Below wr.heap.size wr ((W11.alloc (.cells #[.int .i64 xk, .int .i64 xn, .string xof, .string xs, .slice xao xlen xcap] 29)).setRow b15 #[.int .i64 kind, .string ⟨#[]⟩, .slice (some ⟨W11.heap.size, 0, none⟩) 1 1, .slice none 0 0, .slice none 0 0]) := setRow_below (hr.alloc hz _) hb
  refine done_leaf (x := ⟨kind, ⟨#[]⟩, some ⟨W11.heap.size, 0, none⟩, 1, 1, one1 T9, none, 0, 0, none, 0, 0⟩) (hw.trans (h1.mono hzw)) (hO _ h1) hsum hn hd (setRow_heap _ _ _ _ _ _ (got_old _ _ hold)) (hv b15 hb) (by omega) rfl rfl ⟨.inr (.inr (.inr (.inr ⟨hk, rfl, rfl, rfl, rfl⟩))), fun j _ => hok⟩ ⟨le0, le1⟩ ?_
  exact rowX (by omega) (by rw [setRow_other _ _ _ _ (by omega)]; exact got1 W11 _) (hv _ hz) (five_one hx) (fun _ _ => hok) fun _ _ W' hA => hs2 _ W' hA

theorem infoStmt : (Tryd.prog.info? 34).map (fun i => (i.zero, i.size, i.bytes)) = some (some (.agg #[.int .i64 0, .string ⟨#[]⟩, .slice none 0 0, .slice none 0 0, .slice none 0 0]), 5, 96) := by kernel_rfl
theorem five_news (w : World) (v0 v1 v2 v3 v4 : Value) (t : TypeId) : ∀ (j : Nat) (v : Value), ([v0, v1, v2, v3, v4] : List Value)[j]? = some v → (w.alloc (.cells #[v0, v1, v2, v3, v4] t)).cell? ((⟨w.heap.size, 0, none⟩ : Addr).add j) = some v := by
  intro j v hj
  rw [add_off, Nat.zero_add]
  have hg := got1 w (.cells #[v0, v1, v2, v3, v4] t)
  refine cell_of_heap hg ?_
  simpa using hj

/-- the round's end -/
theorem head_next {w W12 w4 : World} {many pl d k ln0 n2 nS g' c' : Nat} {dep : Int} {v l : Value} {L : Nat → STree} {T : STree} {xs : List Value} {la : Option Addr} {lc : Nat} {o : Obj} (hl : l = .slice la n2 lc) (hR : Raws w la n2 lc) (hB : Below w.heap.size w W12)
    (ho : W12.ownsRow w.heap.size 34 5 v nS xs) (hx : ∀ i, i < nS → ∀ j, j < 5 → xs[i * 5 + j]? = (fiveS (L i []))[j]?) (hok : ∀ i, i < nS → StOk many pl d (L i)) (hs : ∀ i, i < nS → ∀ W, AgreeX w.heap.size W12 v W → SLies W d (L i))
    (hT : StOk many pl d T) (hTs : ∀ W, AgreeX w.heap.size W12 v W → SLies W d T) (ho' : w4.ownsRow w.heap.size 34 5 (.slice (some ⟨g', 0, none⟩) (nS + 1) c') (nS + 1) (xs ++ fiveS (T []))) (hg : World.grownBy (W12.alloc o) w4 v.ownBlock)
    (hat : v.ownBlock = some g' ∨ g' = (W12.alloc o).heap.size) (hz : (W12.alloc o).heap.size ≤ w4.heap.size) (hsum : sum (fun i => cnt d (L i)) nS + cnt d T ≤ per dep * (k + 1)) (hn : nS ≤ 2 * k + 1) (hk : k < 4) (h6 : ln0 ≤ 6 → k = 0 ∧ n2 = 0) (hln : n2 ≤ ln0) :
    Head w many pl d dep ln0 l (.slice (some ⟨g', 0, none⟩) (nS + 1) c') (.int .i64 ((k : Int) + 1)) w4 := by
  have ba := below_a W12 o
  refine ⟨k + 1, la, n2, lc, nS + 1, put L nS T, hl, by simp, by omega, hR, ?_, ?_, ?_, fun h => .inr ⟨by have := (h6 h).1; omega, (h6 h).2⟩, by omega, hln⟩
  · exact (hB.trans (ba.mono hB.size)).grown hg (by have := hB.size; have := ba.size; omega) fun g e => (ho.lt g e).1
  · exact ORow_next hx ho.1 hok (fun i hi W hW => hs i hi W (hW.below ba)) ho' hg hz (hat.elim (fun e => .inl (by rw [e]; rfl)) fun e => .inr (by rw [e]; rfl)) hT fun W hW => hTs W (hW.below ba)
  · rw [sum_put]; exact hsum

/-- an element is set: a number, and what was made -/
theorem boxed2 {w wr W11 W12 : World} {many pl d k b15 nS : Nat} {dep : Int} {v : Value} {L : Nat → STree} {T9 : ETree} {xk xn n9 : Int} {xof xs : ByteArray} {xao : Option Addr} {xlen xcap : Nat} {u0 u1 u2 u3 u4 : Value}
    (hw : Below w.heap.size w wr) (hr : Below wr.heap.size wr W11) (h12 : Below W11.heap.size W11 W12) (hb : wr.heap.size ≤ b15) (hold : W11.heap[b15]? = some (.cells #[u0, u1, u2, u3, u4] 34)) (hv : ∀ b, wr.heap.size ≤ b → v.ownBlock ≠ some b) (hO : ∀ W, Below wr.heap.size wr W → ORow w.heap.size W v nS L many pl d)
    (hsum : sum (fun i => cnt d (L i)) nS ≤ per dep * k) (hn : nS ≤ 2 * k) (hd : 1 ≤ d) (hx : T9 [] = ⟨xk, xn, xof, xs, xao, xlen, xcap⟩) (hok : okE many pl 12 T9) (h9 : 0 ≤ n9 ∧ n9 ≤ 65535)
    (hs2 : ∀ W, (∀ i, wr.heap.size ≤ i → i < W11.heap.size → i ≠ b15 → W.heap[i]? = W11.heap[i]?) → W11.heap.size ≤ W.heap.size → ∀ W', AgreeX w.heap.size W v W' → ELies W' 12 T9) :
    Done_ w many pl d dep k b15 v ((((((W12.alloc (.cells #[.int .i64 1, .int .i64 n9, .string ⟨#[]⟩, .string ⟨#[]⟩, .slice none 0 0, .int .i64 xk, .int .i64 xn, .string xof, .string xs, .slice xao xlen xcap] 29)).setCell ⟨b15, 0, none⟩ (.int .i64 2)).setCell ⟨b15, 1, none⟩ (.string ⟨#[97, 114, 114]⟩)).setCell ⟨b15, 2, none⟩ (.slice (some ⟨W12.heap.size, 0, none⟩) 2 2)).setCell ⟨b15, 3, none⟩ (.slice none 0 0)).setCell ⟨b15, 4, none⟩ (.slice none 0 0)) := by
  have hlt := (Array.getElem?_eq_some_iff.1 hold).1
  have hz := hr.size
  have hz2 := h12.size
  have hzw := hw.size
  have hr2 : Below wr.heap.size wr W12 := hr.trans (h12.mono hz)
  have hold2 : W12.heap[b15]? = some (.cells #[u0, u1, u2, u3, u4] 34) := (h12.block b15 hlt).trans hold
  generalize hF : ((((((W12.alloc (.cells #[.int .i64 1, .int .i64 n9, .string ⟨#[]⟩, .string ⟨#[]⟩, .slice none 0 0, .int .i64 xk, .int .i64 xn, .string xof, .string xs, .slice xao xlen xcap] 29)).setCell ⟨b15, 0, none⟩ (.int .i64 2)).setCell ⟨b15, 1, none⟩ (.string ⟨#[97, 114, 114]⟩)).setCell ⟨b15, 2, none⟩ (.slice (some ⟨W12.heap.size, 0, none⟩) 2 2)).setCell ⟨b15, 3, none⟩ (.slice none 0 0)).setCell ⟨b15, 4, none⟩ (.slice none 0 0)) = F
  have h1 : Below wr.heap.size wr F := by rw [← hF]; exact five_below (hr2.alloc (by omega) _) hb
  have hb15 : F.heap[b15]? = some (.cells #[.int .i64 2, .string ⟨#[97, 114, 114]⟩, .slice (some ⟨W12.heap.size, 0, none⟩) 2 2, .slice none 0 0, .slice none 0 0] 34) := by rw [← hF]; exact five_heap (got_old _ _ hold2)
  have hbe : F.heap[W12.heap.size]? = some (.cells #[.int .i64 1, .int .i64 n9, .string ⟨#[]⟩, .string ⟨#[]⟩, .slice none 0 0, .int .i64 xk, .int .i64 xn, .string xof, .string xs, .slice xao xlen xcap] 29) := by rw [← hF, five_other _ (by omega)]; exact got1 W12 _
  have hFs : W11.heap.size ≤ F.heap.size := by rw [← hF, five_size]; simp; omega
  have hFo : ∀ i, wr.heap.size ≤ i → i < W11.heap.size → i ≠ b15 → F.heap[i]? = W11.heap[i]? := fun i _ h2 h3 => by
    rw [← hF, five_other _ h3, Below.heap_alloc _ _ _ (by omega)]
    exact h12.block i h2
  let TN : ETree := fun _ => ⟨1, n9, .empty, .empty, none, 0, 0⟩
  have okN : okE many pl 12 TN := ⟨.inl ⟨rfl, h9.1, h9.2, rfl, rfl, rfl⟩, fun i (hi : i < 0) => absurd hi (by omega)⟩
  have hok2 : ∀ i, i < 2 → okE many pl 12 (two2 TN T9 i) := fun i hi => by
    obtain rfl | rfl : i = 0 ∨ i = 1 := by omega
    · exact okN
    · exact hok
  refine done_leaf (x := ⟨2, ⟨#[97, 114, 114]⟩, some ⟨W12.heap.size, 0, none⟩, 2, 2, two2 TN T9, none, 0, 0, none, 0, 0⟩) (hw.trans (h1.mono hzw)) (hO _ h1) hsum hn hd hb15 (hv b15 hb) (by omega) rfl rfl ⟨.inr (.inl ⟨rfl, rfl, rfl, rfl, rfl⟩), hok2⟩ ⟨leArr, le2⟩ ?_
  refine rowX (n := 2) (by omega) hbe (hv _ (by omega)) ?_ hok2 ?_
  · intro i hi j hj
    obtain rfl | rfl : i = 0 ∨ i = 1 := by omega
    · obtain rfl | rfl | rfl | rfl | rfl : j = 0 ∨ j = 1 ∨ j = 2 ∨ j = 3 ∨ j = 4 := by omega
      all_goals rfl
    · show _ = (five (T9 []))[j]?
      rw [hx]
      obtain rfl | rfl | rfl | rfl | rfl : j = 0 ∨ j = 1 ∨ j = 2 ∨ j = 3 ∨ j = 4 := by omega
      all_goals rfl
  · intro i hi W' hA
    obtain rfl | rfl : i = 0 ∨ i = 1 := by omega
    · exact fun i (hi : i < 0) => absurd hi (by omega)
    · exact hs2 F hFo hFs W' hA

/-- a test, and two bodies -/
theorem boxedIf {w wr W11 Wl X1 wA X2 wB : World} {many pl d k b15 nS be nA nB cA cB kA kB : Nat} {dep : Int} {v : Value} {L LA LB : Nat → STree} {aA aB : Option Addr} {T9 : ETree} {xk xn : Int} {xof xs : ByteArray} {xao : Option Addr} {xlen xcap : Nat} {u0 u1 u2 u3 u4 : Value}
    (hw : Below w.heap.size w wr) (hr : Below wr.heap.size wr W11) (hl : Below W11.heap.size W11 Wl) (hb : wr.heap.size ≤ b15) (hold : W11.heap[b15]? = some (.cells #[u0, u1, u2, u3, u4] 34)) (hv : ∀ b, wr.heap.size ≤ b → v.ownBlock ≠ some b) (hO : ∀ W, Below wr.heap.size wr W → ORow w.heap.size W v nS L many pl d)
    (hsum : sum (fun i => cnt d (L i)) nS ≤ per dep * k) (hn : nS ≤ 2 * k) (hx : T9 [] = ⟨xk, xn, xof, xs, xao, xlen, xcap⟩) (hok : okE many pl 12 T9)
    (hs2 : ∀ W, (∀ i, wr.heap.size ≤ i → i < W11.heap.size → i ≠ b15 → W.heap[i]? = W11.heap[i]?) → W11.heap.size ≤ W.heap.size → ∀ W', AgreeX w.heap.size W v W' → ELies W' 12 T9)
    (hbe : W11.heap.size ≤ be) (hge : Wl.heap[be]? = some (.cells #[.int .i64 xk, .int .i64 xn, .string xof, .string xs, .slice xao xlen xcap] 29))
    (hA : okS many pl d nA LA ∧ count d nA LA ≤ kA ∧ nA ≤ 1000) (hAs : ∀ W, Agree X1.heap.size wA.heap.size wA W → SRow W d aA nA LA) (hX1 : W11.heap.size ≤ X1.heap.size) (hAl : Below wA.heap.size wA Wl)
    (hB : okS many pl d nB LB ∧ count d nB LB ≤ kB ∧ nB ≤ 1000) (hBs : ∀ W, Agree X2.heap.size wB.heap.size wB W → SRow W d aB nB LB) (hX2 : W11.heap.size ≤ X2.heap.size) (hBl : Below wB.heap.size wB Wl) (hper : 1 + (kA + kB) ≤ per dep) :
    Done_ w many pl d dep k b15 v (((((Wl.setCell ⟨b15, 0, none⟩ (.int .i64 3)).setCell ⟨b15, 1, none⟩ (.string ⟨#[]⟩)).setCell ⟨b15, 2, none⟩ (.slice (some ⟨be, 0, none⟩) 1 1)).setCell ⟨b15, 3, none⟩ (.slice aA nA cA)).setCell ⟨b15, 4, none⟩ (.slice aB nB cB)) := by
  have hlt := (Array.getElem?_eq_some_iff.1 hold).1
  have hz := hr.size
  have hz2 := hl.size
  have hzw := hw.size
  have hzA := hAl.size
  have hzB := hBl.size
  have hr2 : Below wr.heap.size wr Wl := hr.trans (hl.mono hz)
  have hold2 : Wl.heap[b15]? = some (.cells #[u0, u1, u2, u3, u4] 34) := (hl.block b15 hlt).trans hold
  generalize hF : (((((Wl.setCell ⟨b15, 0, none⟩ (.int .i64 3)).setCell ⟨b15, 1, none⟩ (.string ⟨#[]⟩)).setCell ⟨b15, 2, none⟩ (.slice (some ⟨be, 0, none⟩) 1 1)).setCell ⟨b15, 3, none⟩ (.slice aA nA cA)).setCell ⟨b15, 4, none⟩ (.slice aB nB cB)) = F
  have h1 : Below wr.heap.size wr F := by rw [← hF]; exact five_below hr2 hb
  have hb15 : F.heap[b15]? = some (.cells #[.int .i64 3, .string ⟨#[]⟩, .slice (some ⟨be, 0, none⟩) 1 1, .slice aA nA cA, .slice aB nB cB] 34) := by rw [← hF]; exact five_heap hold2
  have hbe2 : F.heap[be]? = some (.cells #[.int .i64 xk, .int .i64 xn, .string xof, .string xs, .slice xao xlen xcap] 29) := by rw [← hF, five_other _ (by omega)]; exact hge
  have hFs : F.heap.size = Wl.heap.size := by rw [← hF, five_size]
  have hFl : ∀ i, i ≠ b15 → F.heap[i]? = Wl.heap[i]? := fun i h => by rw [← hF, five_other _ h]
  have hFo : ∀ i, wr.heap.size ≤ i → i < W11.heap.size → i ≠ b15 → F.heap[i]? = W11.heap[i]? := fun i _ h2 h3 => (hFl i h3).trans (hl.block i h2)
  refine ⟨hw.trans (h1.mono hzw), nS, L, leafS ⟨3, ⟨#[]⟩, some ⟨be, 0, none⟩, 1, 1, one1 T9, aA, nA, cA, aB, nB, cB⟩ LA LB, hO _ h1, ?_, by omega, hb15, hv b15 hb, by omega, ⟨⟨.inr (.inr (.inl ⟨rfl, rfl, rfl⟩)), fun j _ => hok⟩, hA.1, hB.1⟩, fun W' hW => ⟨⟨le0, le1, by have := hA.2.2; show nA ≤ maxLen; unfold maxLen; omega, by have := hB.2.2; show nB ≤ maxLen; unfold maxLen; omega⟩, ?_, ?_, ?_⟩⟩
  · have e : cnt d (leafS ⟨3, ⟨#[]⟩, some ⟨be, 0, none⟩, 1, 1, one1 T9, aA, nA, cA, aB, nB, cB⟩ LA LB) = 1 + (count d nA LA + count d nB LB) := rfl
    have h2 := hA.2.1
    have h3 := hB.2.1
    rw [e, Nat.mul_add, Nat.mul_one]
    omega
  · exact rowX (n := 1) (by omega) hbe2 (hv _ (by omega)) (five_one hx) (fun _ _ => hok) (fun _ _ W' hA => hs2 F hFo (by omega) W' hA) W' hW
  · exact hAs W' fun i h2 h3 => (hW i (by omega) (by omega) (hv i (by omega))).trans ((hFl i (by omega)).trans (hAl.block i h3))
  · exact hBs W' fun i h2 h3 => (hW i (by omega) (by omega) (hv i (by omega))).trans ((hFl i (by omega)).trans (hBl.block i h3))

theorem per_if {dep : Int} {n : Nat} (h1 : 1 ≤ dep) (h3 : dep < 3) (hn : n ≤ 6) : 1 + (bnd (dep + 1) (n / 2) + bnd (dep + 1) (n - n / 2)) ≤ per dep := by
  unfold bnd
  rw [if_pos (by omega), if_pos (by omega)]
  obtain rfl | rfl : dep = 1 ∨ dep = 2 := by omega
  · decide
  · decide

theorem vz_size (k : Nat) : (vz k).size ≤ maxLen := by
  unfold vz pp maxLen
  split
  · decide
  · split
    · decide
    · split <;> decide

theorem sum_ge (d : Nat) (L : Nat → STree) : ∀ n, n ≤ sum (fun i => cnt d (L i)) n
  | 0 => Nat.le_refl _
  | n + 1 => by rw [sum]; have := sum_ge d L n; unfold cnt at *; omega

theorem head_out {w W : World} {many pl d ln0 : Nat} {dep : Int} {l v n : Value} (h : Head w many pl d dep ln0 l v n W) : SOut w many pl (d + 1) (bnd dep ln0) (.returned v) W := by
  obtain ⟨k, la, ln, lc, nS, L, _, _, hk, _, hb, ho, hc, hk0, hn, _⟩ := h
  obtain ⟨ao, cap, rfl, hok, hs⟩ := ORow_row ho
  refine ⟨hb, ao, nS, cap, L, rfl, by omega, hok, ?_, hs, d, rfl, ho⟩
  rw [count_cnt]
  refine Nat.le_trans hc ?_
  unfold bnd
  by_cases h6 : ln0 ≤ 6
  · rw [if_pos h6]
    exact Nat.mul_le_mul_left _ (by have := hk0 h6; omega)
  · rw [if_neg h6]
    exact Nat.mul_le_mul_left _ hk
end Go.Proofs.YtgjemlhnlpglbaaDoor.PStmtBase
