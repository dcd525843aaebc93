/-
  WHAT THE WAY While OF barbicankeep.Stmts LAYS, SAID: 'y = 0' ahead of it, 'y = (y + 1)' behind its body, and '(y < n)'.
  Conditions: each lemma's own.
  WHAT barbicankeep.Program GIVES, SAID: how its units lie in memory, and that nothing is refused of them.
  Conditions: each lemma's own.
-/
import Derived.Test.YtgjemlhnlpglbaaDoorR19
namespace Go.Proofs.YtgjemlhnlpglbaaDoor.PWhileBase
open Go.RowKit PPlain PRaw PNumber PExprBase PStmtBase Trees
open Go.Proofs.YtgjemlhnlpglbaaDoor.Bytes (cell_of_heap)

theorem ORow_less {B B' n : Nat} {w : World} {v : Value} {L : Nat → STree} {many pl d : Nat} (h : ORow B w v n L many pl d) (hB : B' ≤ B) : ORow B' w v n L many pl d := by
  obtain ⟨xs, ho, hx, hok, hs⟩ := h
  exact ⟨xs, ⟨ho.1, ho.2.elim .inl fun ⟨g, cap, cur, h1, h2, h3⟩ => .inr ⟨g, cap, cur, h1, Nat.le_trans hB h2, h3⟩⟩, hx, hok, fun i hi W hW => hs i hi W fun b h1 h2 h3 => hW b (Nat.le_trans hB h1) h2 h3⟩

/-- an expression without Args -/
def lf (k n : Int) (s : ByteArray) : ETree := fun _ => ⟨k, n, .empty, s, none, 0, 0⟩
theorem lf_lies (W : World) (d : Nat) (k n : Int) (s : ByteArray) : ELies W (d + 1) (lf k n s) := fun i (hi : i < 0) => absurd hi (by omega)
theorem lf_num {many pl d : Nat} {n : Int} (h : 0 ≤ n ∧ n ≤ 65535) : okE many pl (d + 1) (lf 1 n .empty) := ⟨.inl ⟨rfl, h.1, h.2, rfl, rfl, rfl⟩, fun i (hi : i < 0) => absurd hi (by omega)⟩
theorem lf_y {many pl d : Nat} : okE many pl (d + 1) (lf 2 0 ⟨#[121]⟩) := ⟨.inr (.inl ⟨rfl, rfl, rfl, .inr (.inl rfl), rfl⟩), fun i (hi : i < 0) => absurd hi (by omega)⟩

/-- y and a number, and an operation of both -/
def yop (o n : Int) (b : Nat) : ETree := node ⟨5, o, .empty, .empty, some ⟨b, 0, none⟩, 2, 2⟩ (two2 (lf 2 0 ⟨#[121]⟩) (lf 1 n .empty))
def ycells (n : Int) : Array Value := #[.int .i64 2, .int .i64 0, .string ⟨#[]⟩, .string ⟨#[121]⟩, .slice none 0 0, .int .i64 1, .int .i64 n, .string ⟨#[]⟩, .string ⟨#[]⟩, .slice none 0 0]
theorem yop_ok {many pl b : Nat} {o n : Int} (ho : 1 ≤ o ∧ o ≤ 10) (hn : 0 ≤ n ∧ n ≤ 65535) : okE many pl 12 (yop o n b) := by
  refine ⟨.inr (.inr (.inr (.inr ⟨rfl, ho.1, ho.2, rfl, rfl, rfl⟩))), fun i (hi : i < 2) => ?_⟩
  obtain rfl | rfl : i = 0 ∨ i = 1 := by omega
  · exact lf_y
  · exact lf_num hn
theorem row_heap {W : World} {many pl n d be : Nat} {cs : Array Value} {t : TypeId} {fr : Nat × Nat} {C : Nat → ETree} (hg : W.heap[be]? = some (.cells cs t fr))
    (hc : ∀ i, i < n → ∀ j, j < 5 → cs[i * 5 + j]? = (five (C i []))[j]?) (hok : ∀ i, i < n → okE many pl 12 (C i)) (hs : ∀ i, i < n → ELies W d (C i)) : ERow W (some ⟨be, 0, none⟩) n C d := by
  intro i hi
  have cell : ∀ j, j < 5 → W.cell? ⟨be, 0 + i * 5 + j, none⟩ = (five (C i []))[j]? := fun j hj => by
    rw [← hc i hi j hj]; simp [World.cell?, hg]
  exact ⟨⟨be, 0, rfl, cell 0 (by decide), cell 1 (by decide), cell 2 (by decide), cell 3 (by decide), cell 4 (by decide)⟩, okE_size (hok i hi), hs i hi⟩
theorem yop_lies {W : World} {b : Nat} {o n : Int} {fr : Nat × Nat} (hn : 0 ≤ n ∧ n ≤ 65535) (h : W.heap[b]? = some (.cells (ycells n) 29 fr)) : ELies W 12 (yop o n b) := by
  refine ELies_succ.2 (row_heap (n := 2) (many := 1) (pl := 0) h (fun i hi j hj => ?_) (fun i hi => ?_) fun i hi => ?_)
  · obtain rfl | rfl : i = 0 ∨ i = 1 := by omega
    · obtain rfl | rfl | rfl | rfl | rfl : j = 0 ∨ j = 1 ∨ j = 2 ∨ j = 3 ∨ j = 4 := by omega
      all_goals rfl
    · obtain rfl | rfl | rfl | rfl | rfl : j = 0 ∨ j = 1 ∨ j = 2 ∨ j = 3 ∨ j = 4 := by omega
      all_goals rfl
  · obtain rfl | rfl : i = 0 ∨ i = 1 := by omega
    · exact lf_y
    · exact lf_num hn
  · obtain rfl | rfl : i = 0 ∨ i = 1 := by omega
    · exact lf_lies _ _ _ _ _
    · exact lf_lies _ _ _ _ _

/-- 'y = ..' -/
def setN (X : ETree) (be : Nat) : SNode := ⟨1, ⟨#[121]⟩, some ⟨be, 0, none⟩, 1, 1, one1 X, none, 0, 0, none, 0, 0⟩
def setY (X : ETree) (be : Nat) : STree := leafS (setN X be) (fun _ _ => setN X be) (fun _ _ => setN X be)
theorem setY_five (X : ETree) (be : Nat) : fiveS (setY X be []) = [.int .i64 1, .string ⟨#[121]⟩, .slice (some ⟨be, 0, none⟩) 1 1, .slice none 0 0, .slice none 0 0] := rfl
theorem setY_ok {many pl d be : Nat} {X : ETree} (hd : 1 ≤ d) (hX : okE many pl 12 X) : StOk many pl d (setY X be) :=
  ⟨⟨.inl ⟨rfl, .inr (.inl rfl), rfl, rfl, rfl⟩, fun _ _ => hX⟩, okS_none hd _, okS_none hd _⟩
theorem setY_cnt (d : Nat) (X : ETree) (be : Nat) : cnt d (setY X be) = 1 := by
  show 1 + (count d 0 _ + count d 0 _) = 1
  rw [count_none, count_none]
theorem leY : (⟨#[121]⟩ : ByteArray).size ≤ maxLen := by unfold maxLen; decide
theorem setY_lies {W : World} {many pl d be : Nat} {X : ETree} {cs : Array Value} {fr : Nat × Nat} (hg : W.heap[be]? = some (.cells cs 29 fr)) (hc : ∀ j, j < 5 → cs[j]? = (five (X []))[j]?) (hX : okE many pl 12 X) (hl : ELies W 12 X) : SLies W d (setY X be) :=
  ⟨⟨leY, le1, Nat.zero_le _, Nat.zero_le _⟩, row_heap (n := 1) hg (fun i hi j hj => by
    obtain rfl : i = 0 := by omega
    rw [Nat.zero_mul, Nat.zero_add]
    exact hc j hj) (fun _ _ => hX) (fun _ _ => hl), SRow_none _, SRow_none _⟩

theorem owns_below {B n z : Nat} {w w2 : World} {t : TypeId} {v : Value} {xs : List Value} (ho : w.ownsRow B t z v n xs) (hb : Below w.heap.size w w2) : w2.ownsRow B t z v n xs :=
  ⟨ho.1, ho.2.elim .inl fun ⟨g, cap, cur, h1, h2, h3, h4⟩ => .inr ⟨g, cap, cur, h1, h2, (hb.block g (Array.getElem?_eq_some_iff.1 h3).1).trans h3, h4⟩⟩

/-- behind 'y = 0' -/
def AtY (w wr W11 : World) (many pl d k nS b15 : Nat) (dep : Int) (v : Value) (W : World) : Prop :=
  Below w.heap.size w W ∧ (∀ b, wr.heap.size ≤ b → b < W11.heap.size → W.heap[b]? = W11.heap[b]?) ∧ W11.heap.size ≤ W.heap.size ∧
  (∀ b, wr.heap.size ≤ b → b < W11.heap.size → v.ownBlock ≠ some b) ∧ (∀ b, v.ownBlock = some b → b < W.heap.size) ∧
  ∃ L, sum (fun i => cnt d (L i)) (nS + 1) ≤ per dep * k + 1 ∧ ∀ W', W.heap.size ≤ W'.heap.size → (∀ b, w.heap.size ≤ b → b < W.heap.size → b ≠ b15 → W'.heap[b]? = W.heap[b]?) → ORow w.heap.size W' v (nS + 1) L many pl d

theorem atY {w wr W11 w4 : World} {many pl d k nS g' c' b15 : Nat} {dep : Int} {v : Value} {L : Nat → STree} {xs : List Value} {o1 o2 : Obj}
    (hw : Below w.heap.size w wr) (hr : Below wr.heap.size wr W11) (ho : wr.ownsRow w.heap.size 34 5 v nS xs) (hx : ∀ i, i < nS → ∀ j, j < 5 → xs[i * 5 + j]? = (fiveS (L i []))[j]?) (hok : ∀ i, i < nS → StOk many pl d (L i)) (hs : ∀ i, i < nS → ∀ W, AgreeX w.heap.size wr v W → SLies W d (L i))
    (hb1 : wr.heap.size ≤ b15) (hb2 : b15 < W11.heap.size) (hd : 1 ≤ d) (hsum : sum (fun i => cnt d (L i)) nS ≤ per dep * k)
    (e1 : o1 = .cells #[.int .i64 1, .int .i64 0, .string ⟨#[]⟩, .string ⟨#[]⟩, .slice none 0 0] 29)
    (ho' : w4.ownsRow w.heap.size 34 5 (.slice (some ⟨g', 0, none⟩) (nS + 1) c') (nS + 1) (xs ++ [.int .i64 1, .string ⟨#[121]⟩, .slice (some ⟨W11.heap.size, 0, none⟩) 1 1, .slice none 0 0, .slice none 0 0]))
    (hg : World.grownBy ((W11.alloc o1).alloc o2) w4 v.ownBlock) (hat : v.ownBlock = some g' ∨ g' = ((W11.alloc o1).alloc o2).heap.size) :
    AtY w wr W11 many pl d k nS b15 dep (.slice (some ⟨g', 0, none⟩) (nS + 1) c') w4 := by
  have hz := hr.size
  have hzw := hw.size
  have hz1 : (W11.alloc o1).heap.size = W11.heap.size + 1 := by simp
  have hz2 : ((W11.alloc o1).alloc o2).heap.size = W11.heap.size + 2 := by simp
  have hz4 := hg.size
  have ba : Below W11.heap.size W11 ((W11.alloc o1).alloc o2) := below_aa W11 o1 o2
  have hlt : ∀ b, v.ownBlock = some b → w.heap.size ≤ b ∧ b < wr.heap.size := fun b e => ⟨(ho.lt b e).1, (ho.lt b e).2⟩
  have hold : ∀ b, b < W11.heap.size → v.ownBlock ≠ some b → w4.heap[b]? = W11.heap[b]? := fun b h2 h3 => (hg.block b (by omega) fun e => h3 e.symm).trans (ba.block b h2)
  have hbe : w4.heap[W11.heap.size]? = some (.cells #[.int .i64 1, .int .i64 0, .string ⟨#[]⟩, .string ⟨#[]⟩, .slice none 0 0] 29) := by
    rw [hg.block W11.heap.size (by omega) fun e => by have := (hlt _ e.symm).2; omega, ← e1]
    exact got_old _ _ (got1 W11 o1)
  have okX : okE many pl 12 (lf 1 0 .empty) := lf_num ⟨by decide, by decide⟩
  have hg' : ∀ b, (Value.slice (some ⟨g', 0, none⟩) (nS + 1) c').ownBlock = some b → v.ownBlock = some b ∨ b = W11.heap.size + 2 := fun b e => by
    have e : g' = b := by simpa [Value.ownBlock] using e
    rcases hat with h | h
    · exact .inl (by rw [h, e])
    · exact .inr (by omega)
  refine ⟨?_, fun b h1 h2 => hold b h2 fun e => by have := (hlt b e).2; omega, by omega, ?_, fun b e => (ho'.lt b e).2, put L nS (setY (lf 1 0 .empty) W11.heap.size), by rw [sum_put, setY_cnt]; omega, fun W hzW hW => ?_⟩
  · exact (hw.trans ((hr.trans (ba.mono hz)).mono hzw)).grown hg (by omega) fun g e => (ho.lt g e).1
  · intro b h1 h2 e
    rcases hg' b e with h | h
    · have := (hlt b h).2; omega
    · omega
  · refine ⟨_, ⟨ho'.1, ho'.2.elim .inl fun ⟨g, cap, cur, h1, h2, h3, h4⟩ => .inr ⟨g, cap, cur, h1, h2, ?_, h4⟩⟩, fun i hi j hj => ?_, fun i hi => ?_, fun i hi W' hA => ?_⟩
    · have e : (Value.slice (some ⟨g', 0, none⟩) (nS + 1) c').ownBlock = some g := by rw [h1]; rfl
      refine (hW g h2 (ho'.lt g e).2 ?_).trans h3
      rcases hg' g e with h | h
      · have := (hlt g h).2; omega
      · omega
    · rcases Nat.lt_or_ge i nS with h | h
      · rw [put_old h, List.getElem?_append_left (by rw [ho.1]; omega), hx i h j hj]
      · obtain rfl : i = nS := by omega
        rw [put_new, List.getElem?_append_right (by rw [ho.1]; omega), ho.1, show i * 5 + j - i * 5 = j by omega]
        rfl
    · rcases Nat.lt_or_ge i nS with h | h
      · rw [put_old h]; exact hok i h
      · obtain rfl : i = nS := by omega
        rw [put_new]; exact setY_ok hd okX
    · have hnot : ∀ b, b ≠ W11.heap.size + 2 → v.ownBlock ≠ some b → (Value.slice (some ⟨g', 0, none⟩) (nS + 1) c').ownBlock ≠ some b := fun b h1 h2 e => (hg' b e).elim h2 h1
      rcases Nat.lt_or_ge i nS with h | h
      · rw [put_old h]
        exact hs i h W' fun b h1 h2 h3 => (hA b h1 (by omega) (hnot b (by omega) h3)).trans ((hW b h1 (by omega) (by omega)).trans ((hold b (by omega) h3).trans (hr.block b h2)))
      · obtain rfl : i = nS := by omega
        rw [put_new]
        refine setY_lies (many := many) (pl := pl) (cs := #[.int .i64 1, .int .i64 0, .string ⟨#[]⟩, .string ⟨#[]⟩, .slice none 0 0]) (fr := (0, 0)) ?_ (fun j hj => ?_) okX (lf_lies _ _ _ _ _)
        · have hl : W11.heap.size < w4.heap.size := by omega
          exact (hA W11.heap.size (by omega) (by omega) (hnot _ (by omega) fun e => by have := (hlt _ e).2; omega)).trans ((hW _ (by omega) hl (by omega)).trans hbe)
        · obtain rfl | rfl | rfl | rfl | rfl : j = 0 ∨ j = 1 ∨ j = 2 ∨ j = 3 ∨ j = 4 := by omega
          all_goals rfl

/-- a box with y and a number, and an operation of both -/
def YBox (W0 : World) (o n : Int) (s : Value) (W : World) : Prop :=
  Below W0.heap.size W0 W ∧ ∃ b b2, s = .pointer (some ⟨b, 0, none⟩) ∧ W0.heap.size ≤ b ∧ W0.heap.size ≤ b2 ∧
    W.heap[b]? = some (.cells #[.int .i64 5, .int .i64 o, .string ⟨#[]⟩, .string ⟨#[]⟩, .slice (some ⟨b2, 0, none⟩) 2 2] 29) ∧ W.heap[b2]? = some (.cells (ycells n) 29)
theorem ybox {W0 : World} {o n : Int} : YBox W0 o n (.pointer (some ⟨W0.heap.size + 1, 0, none⟩)) ((W0.alloc (.cells (ycells n) 29)).alloc (.cells #[.int .i64 5, .int .i64 o, .string ⟨#[]⟩, .string ⟨#[]⟩, .slice (some ⟨W0.heap.size, 0, none⟩) 2 2] 29)) :=
  ⟨below_aa W0 _ _, _, _, rfl, by omega, Nat.le_refl _, got2 W0 _ _, got_old _ _ (got1 W0 _)⟩

/-- the body, and 'y = (y + 1)' behind it -/
def BodyY (WA : World) (many pl d c : Nat) (s : Value) (W : World) : Prop :=
  Below WA.heap.size WA W ∧ ∃ (ab : Option Addr) (nb cb : Nat) (L : Nat → STree), s = .slice ab nb cb ∧ nb ≤ 1001 ∧ okS many pl d nb L ∧ count d nb L ≤ c + 1 ∧ ∀ W', Agree WA.heap.size W.heap.size W W' → SRow W' d ab nb L

theorem bodyY {WA W w4 : World} {many pl d' c nb g' c' bx b2 : Nat} {v : Value} {L : Nat → STree} {xs : List Value}
    (hA : Below WA.heap.size WA W) (ho : W.ownsRow WA.heap.size 34 5 v nb xs) (hx : ∀ i, i < nb → ∀ j, j < 5 → xs[i * 5 + j]? = (fiveS (L i []))[j]?) (hok : ∀ i, i < nb → StOk many pl d' (L i)) (hs : ∀ i, i < nb → ∀ W', AgreeX WA.heap.size W v W' → SLies W' d' (L i))
    (hd : 1 ≤ d') (hn : nb ≤ 1000) (hsum : sum (fun i => cnt d' (L i)) nb ≤ c) (h2 : W.heap[b2]? = some (.cells (ycells 1) 29)) (hb2 : WA.heap.size ≤ b2) (hbx : WA.heap.size ≤ bx)
    (hgx : W.heap[bx]? = some (.cells #[.int .i64 5, .int .i64 1, .string ⟨#[]⟩, .string ⟨#[]⟩, .slice (some ⟨b2, 0, none⟩) 2 2] 29)) (hv2 : v.ownBlock ≠ some b2) (hvx : v.ownBlock ≠ some bx)
    (ho' : w4.ownsRow WA.heap.size 34 5 (.slice (some ⟨g', 0, none⟩) (nb + 1) c') (nb + 1) (xs ++ [.int .i64 1, .string ⟨#[121]⟩, .slice (some ⟨bx, 0, none⟩) 1 1, .slice none 0 0, .slice none 0 0]))
    (hg : World.grownBy W w4 v.ownBlock) (hat : v.ownBlock = some g' ∨ g' = W.heap.size) :
    BodyY WA many pl (d' + 1) c (.slice (some ⟨g', 0, none⟩) (nb + 1) c') w4 := by
  have hzA := hA.size
  have okX : okE many pl 12 (yop 1 1 b2) := yop_ok ⟨by decide, by decide⟩ ⟨by decide, by decide⟩
  have hl2 := (Array.getElem?_eq_some_iff.1 h2).1
  have hlx := (Array.getElem?_eq_some_iff.1 hgx).1
  have hrow : ORow WA.heap.size w4 (.slice (some ⟨g', 0, none⟩) (nb + 1) c') (nb + 1) (put L nb (setY (yop 1 1 b2) bx)) many pl d' :=
    ORow_next hx ho.1 hok hs ho' hg hg.size (hat.elim (fun e => .inl (by rw [e]; rfl)) fun e => .inr (by rw [e]; rfl)) (setY_ok hd okX) fun W' hW => by
      refine setY_lies (many := many) (pl := pl) (cs := #[.int .i64 5, .int .i64 1, .string ⟨#[]⟩, .string ⟨#[]⟩, .slice (some ⟨b2, 0, none⟩) 2 2]) (fr := (0, 0)) ((hW bx hbx hlx hvx).trans hgx) (fun j hj => ?_) okX (yop_lies (fr := (0, 0)) ⟨by decide, by decide⟩ ((hW b2 hb2 hl2 hv2).trans h2))
      obtain rfl | rfl | rfl | rfl | rfl : j = 0 ∨ j = 1 ∨ j = 2 ∨ j = 3 ∨ j = 4 := by omega
      all_goals rfl
  obtain ⟨ao, cap, ev, hokS, hsr⟩ := ORow_row hrow
  injection ev with ev1 _ ev3
  refine ⟨hA.grown hg hzA fun g e => (ho.lt g e).1, some ⟨g', 0, none⟩, nb + 1, c', _, rfl, by omega, hokS, ?_, by rw [ev1]; exact hsr⟩
  rw [count_cnt, sum_put, setY_cnt]
  omega

/-- While: the test, the body; 'y = 0' stands ahead of it -/
theorem boxedW {w wr W11 wA wD : World} {many pl d k b15 nS b2 c : Nat} {v s : Value} {n : Int} {u0 u1 u2 u3 u4 : Value} {ab : Option Addr} {nb cb : Nat}
    (hw : Below w.heap.size w wr) (hr : Below wr.heap.size wr W11) (hb : wr.heap.size ≤ b15) (hold : W11.heap[b15]? = some (.cells #[u0, u1, u2, u3, u4] 34)) (hA : AtY w wr W11 many pl d k nS b15 1 v wA) (hn : nS ≤ 2 * k)
    (hs : s = .slice ab nb cb) (hB : BodyY wA many pl d c s wD) (hc : c ≤ 1) (hd : 1 ≤ d) (h0 : 0 ≤ n ∧ n ≤ 65535) (h2 : wD.heap[b2]? = some (.cells (ycells n) 29)) (hb2 : wA.heap.size ≤ b2) :
    Done_ w many pl d 1 k b15 v ((wD.alloc (.cells #[.int .i64 5, .int .i64 7, .string ⟨#[]⟩, .string ⟨#[]⟩, .slice (some ⟨b2, 0, none⟩) 2 2] 29)).setRow b15 #[.int .i64 4, .string ⟨#[]⟩, .slice (some ⟨wD.heap.size, 0, none⟩) 1 1, .slice ab nb cb, .slice none 0 0]) := by
  have hlt := (Array.getElem?_eq_some_iff.1 hold).1
  have hz := hr.size
  have hzw := hw.size
  obtain ⟨hAb, hAold, hAz, hAv, hAlt, L, hAs, hAO⟩ := hA
  obtain ⟨hBb, ab', nb', cb', LB, es, hnb, hBok, hBc, hBs⟩ := hB
  rw [hs] at es
  injection es with es1 es2 es3
  subst es1 es2 es3
  have hzB := hBb.size
  have hzAw := hAb.size
  have hlt2 := (Array.getElem?_eq_some_iff.1 h2).1
  have hA15 : wA.heap[b15]? = some (.cells #[u0, u1, u2, u3, u4] 34) := (hAold b15 hb hlt).trans hold
  have hD15 : wD.heap[b15]? = some (.cells #[u0, u1, u2, u3, u4] 34) := (hBb.block b15 (by omega)).trans hA15
  have okX : okE many pl 12 (yop 7 n b2) := yop_ok ⟨by decide, by decide⟩ h0
  generalize hF : ((wD.alloc (.cells #[.int .i64 5, .int .i64 7, .string ⟨#[]⟩, .string ⟨#[]⟩, .slice (some ⟨b2, 0, none⟩) 2 2] 29)).setRow b15 #[.int .i64 4, .string ⟨#[]⟩, .slice (some ⟨wD.heap.size, 0, none⟩) 1 1, .slice ab nb cb, .slice none 0 0]) = F
  have hF15 : F.heap[b15]? = some (.cells #[.int .i64 4, .string ⟨#[]⟩, .slice (some ⟨wD.heap.size, 0, none⟩) 1 1, .slice ab nb cb, .slice none 0 0] 34) := by rw [← hF]; exact setRow_heap _ _ _ _ _ _ (got_old _ _ hD15)
  have hFe : F.heap[wD.heap.size]? = some (.cells #[.int .i64 5, .int .i64 7, .string ⟨#[]⟩, .string ⟨#[]⟩, .slice (some ⟨b2, 0, none⟩) 2 2] 29) := by rw [← hF, setRow_other _ _ _ _ (by omega)]; exact got1 wD _
  have hFo : ∀ i, i < wD.heap.size → i ≠ b15 → F.heap[i]? = wD.heap[i]? := fun i h1 h3 => by rw [← hF, setRow_other _ _ _ _ h3]; exact Below.heap_alloc _ _ _ h1
  have hFz : F.heap.size = wD.heap.size + 1 := by rw [← hF]; simp [World.setRow]
  have hv15 : v.ownBlock ≠ some b15 := hAv b15 hb hlt
  have hbF : Below w.heap.size w F := by
    have h1 : Below w.heap.size w wD := hAb.trans (hBb.mono hzAw)
    rw [← hF]
    exact setRow_below (h1.alloc (by have := h1.size; omega) _) (by omega)
  let x : SNode := ⟨4, ⟨#[]⟩, some ⟨wD.heap.size, 0, none⟩, 1, 1, one1 (yop 7 n b2), ab, nb, cb, none, 0, 0⟩
  have hcnt : cnt d (leafS x LB fun _ _ => x) ≤ 3 := by
    show 1 + (count d nb LB + count d 0 _) ≤ 3
    rw [count_none]; omega
  refine ⟨hbF, nS + 1, L, leafS x LB fun _ _ => x, hAO F (by omega) fun b h1 h3 h4 => (hFo b (by omega) h4).trans (hBb.block b h3), ?_, by omega, hF15, hv15, by omega, ⟨⟨.inr (.inr (.inr (.inl ⟨rfl, rfl, rfl, rfl⟩))), fun _ _ => okX⟩, hBok, okS_none hd _⟩, fun W' hW => ⟨⟨le0, le1, by show nb ≤ maxLen; unfold maxLen; omega, Nat.zero_le _⟩, ?_, ?_, SRow_none _⟩⟩
  · have hp : per 1 = 7 := rfl
    rw [hp] at hAs ⊢
    omega
  · have hve : v.ownBlock ≠ some wD.heap.size := fun e => by have := hAlt _ e; omega
    have hv2 : v.ownBlock ≠ some b2 := fun e => by have := hAlt _ e; omega
    refine row_heap (n := 1) (many := many) (pl := pl) (cs := #[.int .i64 5, .int .i64 7, .string ⟨#[]⟩, .string ⟨#[]⟩, .slice (some ⟨b2, 0, none⟩) 2 2]) (t := 29) (fr := (0, 0)) ((hW _ (by omega) (by omega) hve).trans hFe) (fun i hi j hj => ?_) (fun _ _ => okX) fun _ _ => yop_lies (fr := (0, 0)) h0 ((hW b2 (by omega) (by omega) hv2).trans ((hFo b2 hlt2 (by omega)).trans h2))
    obtain rfl : i = 0 := by omega
    obtain rfl | rfl | rfl | rfl | rfl : j = 0 ∨ j = 1 ∨ j = 2 ∨ j = 3 ∨ j = 4 := by omega
    all_goals rfl
  · exact hBs W' fun i h1 h3 => (hW i (by omega) (by omega) fun e => by have := hAlt _ e; omega).trans (hFo i h3 (by omega))

/-- '(y + 1)' -/
def upC (b2 : Nat) : Array Value := #[.int .i64 5, .int .i64 1, .string ⟨#[]⟩, .string ⟨#[]⟩, .slice (some ⟨b2, 0, none⟩) 2 2]
/-- 'y = ..', where its expression lies -/
def setC (bx : Nat) : Array Value := #[.int .i64 1, .string ⟨#[121]⟩, .slice (some ⟨bx, 0, none⟩) 1 1, .slice none 0 0, .slice none 0 0]

/-- what the values mean of which the body is made -/
def GW (WA : World) (l1 pa : Option Addr) (n1 c1 pl pc many d' b2 : Nat) : Nat → Value → World → Prop
  | 0, v, _ => v = .slice l1 n1 c1
  | 1, v, _ => v = .slice pa pl pc
  | 2, v, _ => v = .int .i64 many
  | 3, v, _ => v = .int .i64 1
  | 4, v, _ => v = .int .i64 3
  | 5, v, W => ∃ (ab : Option Addr) (nb cb : Nat) (L : Nat → STree), v = .slice ab nb cb ∧ nb ≤ 1000 ∧ ORow WA.heap.size W v nb L many pl d' ∧ sum (fun i => cnt d' (L i)) nb ≤ 1
  | 6, v, _ => v = .agg (upC b2)
  | 7, v, W => ∃ bx, v = .slice (some ⟨bx, 0, none⟩) 1 1 ∧ WA.heap.size ≤ bx ∧ W.heap[bx]? = some (.cells (upC b2) 29)
  | 8, v, W => ∃ bx, v = .agg (setC bx) ∧ WA.heap.size ≤ bx ∧ W.heap[bx]? = some (.cells (upC b2) 29)
  | 9, v, W => ∃ bx bs, v = .slice (some ⟨bs, 0, none⟩) 1 1 ∧ WA.heap.size ≤ bx ∧ W.heap[bx]? = some (.cells (upC b2) 29) ∧ W.heap[bs]? = some (.cells (setC bx) 34)
  | _, _, _ => True

theorem kept {w w' : World} {b : Nat} {o : Obj} (hb : Below w.heap.size w w') (h : w.heap[b]? = some o) : w'.heap[b]? = some o := (hb.block b (Array.getElem?_eq_some_iff.1 h).1).trans h

theorem GW_below (WA : World) (l1 pa : Option Addr) (n1 c1 pl pc many d' b2 : Nat) : ∀ i v w w', GW WA l1 pa n1 c1 pl pc many d' b2 i v w → Below w.heap.size w w' → GW WA l1 pa n1 c1 pl pc many d' b2 i v w'
  | 0, _, _, _, h, _ => h
  | 1, _, _, _, h, _ => h
  | 2, _, _, _, h, _ => h
  | 3, _, _, _, h, _ => h
  | 4, _, _, _, h, _ => h
  | 5, _, _, _, ⟨ab, nb, cb, L, h1, h2, h3, h4⟩, hb => ⟨ab, nb, cb, L, h1, h2, ORow_below h3 hb, h4⟩
  | 6, _, _, _, h, _ => h
  | 7, _, _, _, ⟨bx, h1, h2, h3⟩, hb => ⟨bx, h1, h2, kept hb h3⟩
  | 8, _, _, _, ⟨bx, h1, h2, h3⟩, hb => ⟨bx, h1, h2, kept hb h3⟩
  | 9, _, _, _, ⟨bx, bs, h1, h2, h3, h4⟩, hb => ⟨bx, bs, h1, h2, kept hb h3, kept hb h4⟩
  | _ + 10, _, _, _, _, _ => trivial

theorem own_ne {w : World} {B n b : Nat} {v : Value} {xs : List Value} {cs : Array Value} {fr : Nat × Nat} (ho : w.ownsRow B 34 5 v n xs) (h : w.heap[b]? = some (.cells cs 29 fr)) : v.ownBlock ≠ some b := by
  rcases ho.2 with ⟨rfl, _⟩ | ⟨g, cap, cur, hv, _, hg, _⟩
  · simp [Value.ownBlock]
  · intro e
    rw [hv] at e
    simp [Value.ownBlock] at e
    subst e
    rw [hg] at h
    simp at h

theorem owns_less {B B' n z : Nat} {w : World} {t : TypeId} {v : Value} {xs : List Value} (ho : w.ownsRow B t z v n xs) (h : B' ≤ B) : w.ownsRow B' t z v n xs :=
  ⟨ho.1, ho.2.elim .inl fun ⟨g, cap, cur, h1, h2, h3⟩ => .inr ⟨g, cap, cur, h1, Nat.le_trans h h2, h3⟩⟩
theorem five_of {w : World} {bs : Nat} {v0 v1 v2 v3 v4 : Value} {t : TypeId} (h : w.heap[bs]? = some (.cells #[v0, v1, v2, v3, v4] t)) : ∀ (j : Nat) (v : Value), ([v0, v1, v2, v3, v4] : List Value)[j]? = some v → w.cell? ((⟨bs, 0, none⟩ : Addr).add j) = some v := by
  intro j v hj
  rw [add_off, Nat.zero_add]
  refine cell_of_heap h ?_
  simpa using hj
theorem bnd3 {n : Nat} (h : n ≤ 6) : bnd 3 n = 1 := by unfold bnd; rw [if_pos h]; rfl

/-- what the append of the body's last statement wants, and what it gives -/
theorem tailW {wA wC w2 : World} {l1 pa : Option Addr} {n1 c1 pl pc many d' b2 : Nat} {v5 v9 : Value} (hAC : Below wA.heap.size wA wC) (hb : Below wC.heap.size wC w2) (g5 : GW wC l1 pa n1 c1 pl pc many d' b2 5 v5 w2) (g9 : GW wC l1 pa n1 c1 pl pc many d' b2 9 v9 w2)
    (hd : 1 ≤ d') (h2 : wC.heap[b2]? = some (.cells (ycells 1) 29)) (hb2 : wA.heap.size ≤ b2) :
    ∃ (nb bx bs : Nat) (xs5 : List Value), v9 = .slice (some ⟨bs, 0, none⟩) 1 1 ∧ nb ≤ 1000 ∧ w2.ownsRow wC.heap.size 34 5 v5 nb xs5 ∧
      (∀ (j : Nat) (v : Value), ([.int .i64 1, .string ⟨#[121]⟩, .slice (some ⟨bx, 0, none⟩) 1 1, .slice none 0 0, .slice none 0 0] : List Value)[j]? = some v → w2.cell? ((⟨bs, 0, none⟩ : Addr).add j) = some v) ∧
      ∀ (w4 : World) (g' c' : Nat), w4.ownsRow wC.heap.size 34 5 (.slice (some ⟨g', 0, none⟩) (nb + 1) c') (nb + 1) (xs5 ++ [.int .i64 1, .string ⟨#[121]⟩, .slice (some ⟨bx, 0, none⟩) 1 1, .slice none 0 0, .slice none 0 0]) → World.grownBy w2 w4 v5.ownBlock → (v5.ownBlock = some g' ∨ g' = w2.heap.size) → Below wC.heap.size wC w4 ∧ BodyY wA many pl (d' + 1) 1 (.slice (some ⟨g', 0, none⟩) (nb + 1) c') w4 := by
  obtain ⟨ab, nb, cb, LB, e5, hnb, ⟨xs5, ho5, hx5, hok5, hs5⟩, hsB⟩ := g5
  obtain ⟨bx, bs, e9, hbx, hgx, hgs⟩ := g9
  have g2d := kept hb h2
  have zAC := hAC.size
  exact ⟨nb, bx, bs, xs5, e9, hnb, ho5, five_of hgs, fun w4 g' c' ho' hg' hat =>
    ⟨hb.grown hg' hb.size fun g e => (ho5.lt g e).1, bodyY (hAC.trans (hb.mono zAC)) (owns_less ho5 zAC) hx5 hok5 (fun i hi W' hW => hs5 i hi W' fun b h1 h2 h3 => hW b (by omega) h2 h3) hd hnb hsB g2d hb2 (by omega) hgx (own_ne ho5 g2d) (own_ne ho5 hgx) (owns_less ho' zAC) hg' hat⟩⟩
theorem one5 (bx : Nat) : ∀ v ∈ ([.int .i64 1, .string ⟨#[121]⟩, .slice (some ⟨bx, 0, none⟩) 1 1, .slice none 0 0, .slice none 0 0] : List Value), v.oneCell' = true := by simp [Value.oneCell']

/-- is it that region? -/
def isReg (n : Nat) : Code → Bool
  | .region id _ _ => id == n
  | _ => false
/-- the code from a region on -/
def codeAt (n : Nat) : Code → Option Code
  | .seq a b => if isReg n a = true then some (.seq a b) else match codeAt n a with
    | some c => some c
    | none => codeAt n b
  | .cond _ a b => match codeAt n a with
    | some c => some c
    | none => codeAt n b
  | .loop a => codeAt n a
  | .block _ a => codeAt n a
  | .scope a => codeAt n a
  | _ => none
end Go.Proofs.YtgjemlhnlpglbaaDoor.PWhileBase

namespace Go.Proofs.YtgjemlhnlpglbaaDoor.PProgBase
open Go.RowKit NPlain NSense PPlain PRaw PNumber PExprBase PStmtBase PWhileBase Trees
open Go.Proofs.YtgjemlhnlpglbaaDoor.Bytes (cell_of_heap)

/-- where a unit of raw things lies -/
structure ULay where
  lo : Nat
  hi : Nat
  bv : Nat
  ba : Nat
  bf : Nat
  p0 : Nat
  p1 : Nat
  ao : Nat → Option Addr
  n : Nat → Nat
  c : Nat → Nat
  L : Nat → Nat → STree
  s : Nat → Nat
  e : Nat → Nat

def fcells (x : ULay) : Array Value := #[.string ⟨#[102]⟩, .bool true, .slice (some ⟨x.p0, 0, none⟩) 2 2, .slice (x.ao 0) (x.n 0) (x.c 0), .string ⟨#[103]⟩, .bool false, .slice (some ⟨x.p1, 0, none⟩) 1 1, .slice (x.ao 1) (x.n 1) (x.c 1), .string ⟨#[104]⟩, .bool true, .slice none 0 0, .slice (x.ao 2) (x.n 2) (x.c 2)]
def vcells : Array Value := #[.string ⟨#[120]⟩, .string ⟨#[121]⟩]
def pqcells : Array Value := #[.string ⟨#[112]⟩, .string ⟨#[113]⟩]
def pcells : Array Value := #[.string ⟨#[112]⟩]
def acells (i : Nat) : Array Value := #[.string ⟨#[97, 114, 114]⟩, .int .i64 (2 + i)]
def ucells (i : Nat) (x : ULay) : Array Value := #[.string (nu i), .slice (some ⟨x.bv, 0, none⟩) 2 2, .slice (some ⟨x.ba, 0, none⟩) 1 1, .slice (some ⟨x.bf, 0, none⟩) 3 3]

/-- it lies there -/
def UAt (i : Nat) (x : ULay) (W : World) : Prop :=
  W.heap[x.bv]? = some (.cells vcells 9) ∧ W.heap[x.ba]? = some (.cells (acells i) 63) ∧ W.heap[x.bf]? = some (.cells (fcells x) 37) ∧ W.heap[x.p0]? = some (.cells pqcells 9) ∧ W.heap[x.p1]? = some (.cells pcells 9) ∧
  ∀ k, k < 3 → ∀ W', Agree (x.s k) (x.e k) W W' → SRow W' 12 (x.ao k) (x.n k) (x.L k)
/-- between which blocks -/
def UIn (x : ULay) : Prop := (x.lo ≤ x.bv ∧ x.bv < x.hi) ∧ (x.lo ≤ x.ba ∧ x.ba < x.hi) ∧ (x.lo ≤ x.bf ∧ x.bf < x.hi) ∧ (x.lo ≤ x.p0 ∧ x.p0 < x.hi) ∧ (x.lo ≤ x.p1 ∧ x.p1 < x.hi) ∧ ∀ k, k < 3 → x.lo ≤ x.s k ∧ x.s k ≤ x.e k ∧ x.e k ≤ x.bf
/-- nothing is refused of its bodies -/
def UOk (many : Nat) (x : ULay) : Prop := ∀ k, k < 3 → okS many (2 - k) 12 (x.n k) (x.L k) ∧ count 12 (x.n k) (x.L k) ≤ 28 ∧ x.n k ≤ 1000

theorem UAt_agree {i : Nat} {x : ULay} {W W2 : World} (h : UAt i x W) (hi : UIn x) (ha : Agree x.lo x.hi W W2) : UAt i x W2 := by
  obtain ⟨h1, h2, h3, h4, h5, h6⟩ := h
  obtain ⟨i1, i2, i3, i4, i5, i6⟩ := hi
  refine ⟨(ha _ i1.1 i1.2).trans h1, (ha _ i2.1 i2.2).trans h2, (ha _ i3.1 i3.2).trans h3, (ha _ i4.1 i4.2).trans h4, (ha _ i5.1 i5.2).trans h5, fun k hk W' hA => h6 k hk W' fun b b1 b2 => ?_⟩
  have := i6 k hk
  exact (hA b b1 b2).trans (ha b (by omega) (by omega))

/-- the unit -/
def func0 (x : ULay) (k : Nat) : FuncD :=
  if k = 0 then ⟨⟨#[102]⟩, true, some ⟨x.p0, 0, none⟩, 2, 2, pp, x.ao 0, x.n 0, x.c 0, x.L 0⟩
  else if k = 1 then ⟨⟨#[103]⟩, false, some ⟨x.p1, 0, none⟩, 1, 1, pp, x.ao 1, x.n 1, x.c 1, x.L 1⟩
  else ⟨⟨#[104]⟩, true, none, 0, 0, pp, x.ao 2, x.n 2, x.c 2, x.L 2⟩
def unitD (i : Nat) (x : ULay) : UnitD :=
  ⟨nu i, some ⟨x.bv, 0, none⟩, 2, 2, vz, some ⟨x.ba, 0, none⟩, 1, 1, fun _ => narr, fun _ => 2 + (i : Int), some ⟨x.bf, 0, none⟩, 3, 3, func0 x⟩

theorem nu_size (i : Nat) : (nu i).size ≤ maxLen := by
  unfold nu maxLen
  split
  · decide
  · split <;> decide
theorem pp_size (i : Nat) : (pp i).size ≤ maxLen := by
  unfold pp maxLen
  split <;> decide

theorem strs_pq {W : World} {b : Nat} (h : W.heap[b]? = some (.cells pqcells 9)) : Strs W (some ⟨b, 0, none⟩) 2 pp := fun i hi => by
  refine ⟨⟨b, 0, rfl, ?_⟩, pp_size i⟩
  obtain rfl | rfl : i = 0 ∨ i = 1 := by omega
  · exact cell_of_heap h rfl
  · exact cell_of_heap h rfl
theorem strs_p {W : World} {b : Nat} (h : W.heap[b]? = some (.cells pcells 9)) : Strs W (some ⟨b, 0, none⟩) 1 pp := fun i hi => by
  refine ⟨⟨b, 0, rfl, ?_⟩, pp_size i⟩
  obtain rfl : i = 0 := by omega
  exact cell_of_heap h rfl
theorem strs_v {W : World} {b : Nat} (h : W.heap[b]? = some (.cells vcells 9)) : Strs W (some ⟨b, 0, none⟩) 2 vz := fun i hi => by
  refine ⟨⟨b, 0, rfl, ?_⟩, vz_size i⟩
  obtain rfl | rfl : i = 0 ∨ i = 1 := by omega
  · exact cell_of_heap h rfl
  · exact cell_of_heap h rfl
theorem arow_a {W : World} {b i : Nat} (h : W.heap[b]? = some (.cells (acells i) 63)) : ARow W (some ⟨b, 0, none⟩) 1 (fun _ => narr) fun _ => 2 + (i : Int) := fun j hj => by
  obtain rfl : j = 0 := by omega
  exact ⟨⟨b, 0, rfl, cell_of_heap h rfl, cell_of_heap h rfl⟩, leArr⟩

theorem funcs_lie {i : Nat} {x : ULay} {W : World} (h : UAt i x W) (ho : ∀ k, k < 3 → x.n k ≤ 1000) : FRow W (some ⟨x.bf, 0, none⟩) 3 (func0 x) := by
  obtain ⟨h1, h2, h3, h4, h5, h6⟩ := h
  have l3 : ∀ k, k < 3 → x.n k ≤ maxLen := fun k hk => by have := ho k hk; unfold maxLen; omega
  have s3 : ∀ k, k < 3 → SRow W 12 (x.ao k) (x.n k) (x.L k) := fun k hk => h6 k hk W fun _ _ _ => rfl
  intro k hk
  obtain rfl | rfl | rfl : k = 0 ∨ k = 1 ∨ k = 2 := by omega
  · exact ⟨⟨x.bf, 0, rfl, cell_of_heap h3 rfl, cell_of_heap h3 rfl, cell_of_heap h3 rfl, cell_of_heap h3 rfl⟩, by show (⟨#[102]⟩ : ByteArray).size ≤ maxLen; unfold maxLen; decide, by show 2 ≤ maxLen; unfold maxLen; decide, l3 0 hk, strs_pq h4, s3 0 hk⟩
  · exact ⟨⟨x.bf, 0, rfl, cell_of_heap h3 rfl, cell_of_heap h3 rfl, cell_of_heap h3 rfl, cell_of_heap h3 rfl⟩, by show (⟨#[103]⟩ : ByteArray).size ≤ maxLen; unfold maxLen; decide, by show 1 ≤ maxLen; unfold maxLen; decide, l3 1 hk, strs_p h5, s3 1 hk⟩
  · exact ⟨⟨x.bf, 0, rfl, cell_of_heap h3 rfl, cell_of_heap h3 rfl, cell_of_heap h3 rfl, cell_of_heap h3 rfl⟩, by show (⟨#[104]⟩ : ByteArray).size ≤ maxLen; unfold maxLen; decide, Nat.zero_le _, l3 2 hk, fun j (hj : j < 0) => absurd hj (by omega), s3 2 hk⟩

theorem unit_lies {i many : Nat} {x : ULay} {W : World} (h : UAt i x W) (ho : UOk many x) : UnitLies W (unitD i x) :=
  ⟨⟨nu_size i, by show 2 ≤ maxLen; unfold maxLen; decide, by show 1 ≤ maxLen; unfold maxLen; decide, by show 3 ≤ maxLen; unfold maxLen; decide⟩, strs_v h.1, arow_a h.2.1, funcs_lie h fun k hk => (ho k hk).2.2⟩

theorem unit_hd (i : Nat) (x : ULay) : UnitHd i (unitD i x) where
  name := rfl
  vars := ⟨rfl, rfl, rfl⟩
  arrs := ⟨rfl, rfl, rfl⟩
  funs := rfl
  f0 := ⟨rfl, rfl, rfl⟩
  f1 := ⟨rfl, rfl, rfl⟩
  f2 := ⟨rfl, rfl, rfl⟩
  pars := fun k hk j _ => by
    obtain rfl | rfl | rfl : k = 0 ∨ k = 1 ∨ k = 2 := by omega
    all_goals rfl

theorem body_ok {i many : Nat} {x : ULay} (h : UOk many x) : ∀ k, k < 3 → BodyOk many ((unitD i x).fs k) := fun k hk => by
  have := h k hk
  obtain rfl | rfl | rfl : k = 0 ∨ k = 1 ∨ k = 2 := by omega
  all_goals exact ⟨this.1, this.2.1⟩

/-- a program of raw things lies there: its row, its units, where they lie apart from each other -/
structure PLies (B : Nat) (w : World) (v : Value) (k many : Nat) (X : Nat → ULay) : Prop where
  row : ∃ xs, w.ownsRow B 41 4 v k xs ∧ ∀ i, i < k → ∀ j, j < 4 → xs[i * 4 + j]? = (ucells i (X i))[j]?
  at_ : ∀ i, i < k → UAt i (X i) w
  in_ : ∀ i, i < k → UIn (X i)
  ok : ∀ i, i < k → UOk many (X i)
  low : ∀ i, i < k → B ≤ (X i).lo
  high : ∀ i, i < k → (X i).hi ≤ w.heap.size
  apart : ∀ i j, i < j → j < k → (X i).hi ≤ (X j).lo
  off : ∀ i, i < k → ∀ g, v.ownBlock = some g → g < (X i).lo ∨ (X i).hi ≤ g

theorem plies_nil (B : Nat) (w : World) (many : Nat) (X : Nat → ULay) : PLies B w (.slice none 0 0) 0 many X where
  row := ⟨[], World.ownsRow_nil _ _ _ _, fun i hi => absurd hi (by omega)⟩
  at_ := fun i hi => absurd hi (by omega)
  in_ := fun i hi => absurd hi (by omega)
  ok := fun i hi => absurd hi (by omega)
  low := fun i hi => absurd hi (by omega)
  high := fun i hi => absurd hi (by omega)
  apart := fun i j _ hj => absurd hj (by omega)
  off := fun i hi => absurd hi (by omega)

theorem plies_below {B : Nat} {w w2 : World} {v : Value} {k many : Nat} {X : Nat → ULay} (h : PLies B w v k many X) (hb : Below w.heap.size w w2) : PLies B w2 v k many X where
  row := h.row.elim fun xs hx => ⟨xs, owns_below hx.1 hb, hx.2⟩
  at_ := fun i hi => UAt_agree (h.at_ i hi) (h.in_ i hi) fun b _ h2 => hb.block b (by have := h.high i hi; omega)
  in_ := h.in_
  ok := h.ok
  low := h.low
  high := fun i hi => Nat.le_trans (h.high i hi) hb.size
  apart := h.apart
  off := h.off

/-- units, with one more -/
def putX (X : Nat → ULay) (k : Nat) (x : ULay) : Nat → ULay := fun i => if i = k then x else X i
theorem putX_old {X : Nat → ULay} {k i : Nat} {x : ULay} (h : i < k) : putX X k x i = X i := by unfold putX; rw [if_neg (by omega)]
theorem putX_new (X : Nat → ULay) (k : Nat) (x : ULay) : putX X k x k = x := by unfold putX; rw [if_pos rfl]

theorem plies_next {B : Nat} {wr w w2 : World} {v : Value} {k many g' c' : Nat} {X : Nat → ULay} {x : ULay} {xs : List Value} (h : PLies B wr v k many X) (hb : Below wr.heap.size wr w) (ho : w.ownsRow B 41 4 v k xs) (hx : ∀ i, i < k → ∀ j, j < 4 → xs[i * 4 + j]? = (ucells i (X i))[j]?)
    (ho' : w2.ownsRow B 41 4 (.slice (some ⟨g', 0, none⟩) (k + 1) c') (k + 1) (xs ++ [.string (nu k), .slice (some ⟨x.bv, 0, none⟩) 2 2, .slice (some ⟨x.ba, 0, none⟩) 1 1, .slice (some ⟨x.bf, 0, none⟩) 3 3])) (hg : w.grownBy w2 v.ownBlock) (hat : v.ownBlock = some g' ∨ g' = w.heap.size)
    (hxa : UAt k x w) (hxi : UIn x) (hxo : UOk many x) (hlo : wr.heap.size ≤ x.lo) (hhi : x.hi ≤ w.heap.size) (hB : B ≤ wr.heap.size) : PLies B w2 (.slice (some ⟨g', 0, none⟩) (k + 1) c') (k + 1) many (putX X k x) := by
  have hz := hb.size
  have hz2 := hg.size
  have hv : ∀ b, v.ownBlock = some b → b < wr.heap.size := fun b e => by
    obtain ⟨xs0, h0, _⟩ := h.row
    exact (h0.lt b e).2
  have hg2 : ∀ b, (Value.slice (some ⟨g', 0, none⟩) (k + 1) c').ownBlock = some b → v.ownBlock = some b ∨ b = w.heap.size := fun b e => by
    have e : g' = b := by simpa [Value.ownBlock] using e
    rcases hat with h | h
    · exact .inl (by rw [h, e])
    · exact .inr (by omega)
  refine ⟨⟨_, ho', fun i hi j hj => ?_⟩, fun i hi => ?_, fun i hi => ?_, fun i hi => ?_, fun i hi => ?_, fun i hi => ?_, fun i j hij hj => ?_, fun i hi g e => ?_⟩
  · rcases Nat.lt_or_ge i k with hik | hik
    · rw [putX_old hik, List.getElem?_append_left (by rw [ho.1]; omega), hx i hik j hj]
    · obtain rfl : i = k := by omega
      rw [putX_new, List.getElem?_append_right (by rw [ho.1]; omega), ho.1, show i * 4 + j - i * 4 = j by omega]
      obtain rfl | rfl | rfl | rfl : j = 0 ∨ j = 1 ∨ j = 2 ∨ j = 3 := by omega
      all_goals rfl
  · rcases Nat.lt_or_ge i k with hik | hik
    · rw [putX_old hik]
      refine UAt_agree (h.at_ i hik) (h.in_ i hik) fun b b1 b2 => ?_
      have hh := h.high i hik
      exact (hg.block b (by omega) fun e => by have := h.off i hik b e.symm; omega).trans (hb.block b (by omega))
    · obtain rfl : i = k := by omega
      rw [putX_new]
      exact UAt_agree hxa hxi fun b b1 b2 => hg.block b (by omega) fun e => by have := hv b e.symm; omega
  · rcases Nat.lt_or_ge i k with hik | hik
    · rw [putX_old hik]; exact h.in_ i hik
    · obtain rfl : i = k := by omega
      rw [putX_new]; exact hxi
  · rcases Nat.lt_or_ge i k with hik | hik
    · rw [putX_old hik]; exact h.ok i hik
    · obtain rfl : i = k := by omega
      rw [putX_new]; exact hxo
  · rcases Nat.lt_or_ge i k with hik | hik
    · rw [putX_old hik]; exact h.low i hik
    · obtain rfl : i = k := by omega
      rw [putX_new]; omega
  · rcases Nat.lt_or_ge i k with hik | hik
    · rw [putX_old hik]; have := h.high i hik; omega
    · obtain rfl : i = k := by omega
      rw [putX_new]; omega
  · rw [putX_old (show i < k by omega)]
    rcases Nat.lt_or_ge j k with hjk | hjk
    · rw [putX_old hjk]; exact h.apart i j hij hjk
    · obtain rfl : j = k := by omega
      rw [putX_new]; have := h.high i hij; omega
  · rcases Nat.lt_or_ge i k with hik | hik
    · rw [putX_old hik]
      rcases hg2 g e with h1 | h1
      · exact h.off i hik g h1
      · have := h.high i hik; exact .inr (by omega)
    · obtain rfl : i = k := by omega
      rw [putX_new]
      rcases hg2 g e with h1 | h1
      · have := hv g h1; exact .inl (by omega)
      · exact .inr (by omega)

/-- the units -/
def unitsD (X : Nat → ULay) : Nat → UnitD := fun i => unitD i (X i)
theorem plies_row {B : Nat} {w : World} {v : Value} {k many : Nat} {X : Nat → ULay} (h : PLies B w v k many X) : ∃ ao cap, v = .slice ao k cap ∧ URow w ao k (unitsD X) := by
  obtain ⟨xs, ho, hx⟩ := h.row
  rcases ho.2 with ⟨rfl, rfl⟩ | ⟨g, cap, cur, hv, hB, hg, r⟩
  · exact ⟨none, 0, rfl, fun i hi => absurd hi (by omega)⟩
  · refine ⟨some ⟨g, 0, none⟩, cap, hv, fun i hi => ⟨?_, unit_lies (h.at_ i hi) (h.ok i hi)⟩⟩
    have cell : ∀ j, j < 4 → w.cell? ⟨g, 0 + i * 4 + j, none⟩ = (ucells i (X i))[j]? := fun j hj => by
      have e := hx i hi j hj
      obtain ⟨u, hu⟩ : ∃ u, (ucells i (X i))[j]? = some u := by
        obtain rfl | rfl | rfl | rfl : j = 0 ∨ j = 1 ∨ j = 2 ∨ j = 3 := by omega
        all_goals exact ⟨_, rfl⟩
      rw [hu] at e ⊢
      have := ho.cells (g := g) (by rw [hv]; rfl) (i * 4 + j) u e
      rw [add_off, Nat.zero_add] at this
      rw [Nat.zero_add]
      exact this
    exact ⟨g, 0, rfl, cell 0 (by decide), cell 1 (by decide), cell 2 (by decide), cell 3 (by decide)⟩
theorem plies_fault {B : Nat} {w : World} {v : Value} {many : Nat} {X : Nat → ULay} (h : PLies B w v many many X) (hm : many ≤ 3) : programFault many (unitsD X) = 0 :=
  program_fault ⟨hm, fun i _ => unit_hd i (X i)⟩ fun i hi => body_ok (h.ok i hi)

/-- what comes out -/
def ProgOut (w : World) (ln : Nat) (e : Ending) (w' : World) : Prop :=
  Below w.heap.size w w' ∧ ∃ (ao : Option Addr) (cap : Nat) (X : Nat → ULay), e = .returned (.slice ao (1 + ln % 3) cap) ∧ PLies w.heap.size w' (.slice ao (1 + ln % 3) cap) (1 + ln % 3) (1 + ln % 3) X
end Go.Proofs.YtgjemlhnlpglbaaDoor.PProgBase
