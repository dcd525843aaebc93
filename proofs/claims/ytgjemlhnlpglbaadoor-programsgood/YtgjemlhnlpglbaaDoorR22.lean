/-
  A PROGRAM OF RAW THINGS IN MEMORY, WHOSE FIRST UNIT IS TURNED: another body of its first function, a variable more.
  Conditions: each lemma's own.
  A REGION THAT DRAWS ITS ORDER, WALKED BY WHAT HOLDS OF IT: each operation by itself, whatever came ahead of it; the orders are never listed.
  Conditions: each lemma's own.
-/
import Derived.Test.YtgjemlhnlpglbaaDoorR21
import Derived.Deep.RegionLawGrows
import Derived.Test.YtgjemlhnlpglbaaDoorR19
import Derived.OrdersHeld
import Derived.Great.Frames
namespace Go.Proofs.YtgjemlhnlpglbaaDoor.PGoodMem
open Go.RowKit NPlain NSense PPlain PRaw PNumber PExprBase PStmtBase PWhileBase PProgBase PProgG PGoodPlain Trees
open Go.Proofs.YtgjemlhnlpglbaaDoor.Bytes (cell_of_heap)

/-- statements, as cells -/
def flatS (L : Nat → STree) : Nat → List Value
  | 0 => []
  | n + 1 => flatS L n ++ fiveS (L n [])
theorem flatS_length (L : Nat → STree) : ∀ n, (flatS L n).length = n * 5
  | 0 => rfl
  | n + 1 => by simp [flatS, flatS_length L n, fiveS]; omega
theorem flatS_get (L : Nat → STree) : ∀ n q r, q < n → r < 5 → (flatS L n)[q * 5 + r]? = (fiveS (L q []))[r]?
  | 0, q, r, h, _ => by omega
  | n + 1, q, r, h, hr => by
    rw [flatS]
    rcases Nat.lt_or_ge q n with h' | h'
    · rw [List.getElem?_append_left (by rw [flatS_length]; omega), flatS_get L n q r h' hr]
    · obtain rfl : q = n := by omega
      rw [List.getElem?_append_right (by rw [flatS_length]; omega), flatS_length, show q * 5 + r - q * 5 = r by omega]
theorem flatS_one (L : Nat → STree) : ∀ n, ∀ u ∈ flatS L n, u.oneCell' = true
  | 0, u, h => by simp [flatS] at h
  | n + 1, u, h => by
    rw [flatS, List.mem_append] at h
    rcases h with h | h
    · exact flatS_one L n u h
    · simp [fiveS] at h
      rcases h with h | h | h | h | h <;> (subst h; rfl)
theorem five_get {x : SNode} {r : Nat} (hr : r < 5) : ∃ u, (fiveS x)[r]? = some u := by
  obtain rfl | rfl | rfl | rfl | rfl : r = 0 ∨ r = 1 ∨ r = 2 ∨ r = 3 ∨ r = 4 := by omega
  all_goals exact ⟨_, rfl⟩

/-- a row's cells, as it lies -/
theorem row_src {W : World} {d n : Nat} {ao : Option Addr} {L : Nat → STree} (h : SRow W (d + 1) ao n L) (hn : 0 < n) : ∃ bl off, ao = some ⟨bl, off, none⟩ ∧ ∀ j u, (flatS L n)[j]? = some u → W.cell? ((⟨bl, off, none⟩ : Addr).add j) = some u := by
  obtain ⟨⟨bl, off, e, _⟩, _⟩ := h 0 hn
  refine ⟨bl, off, e, fun j u hj => ?_⟩
  have hjl : j < n * 5 := by
    rcases Nat.lt_or_ge j (n * 5) with h' | h'
    · exact h'
    · rw [List.getElem?_eq_none (by rw [flatS_length]; exact h')] at hj; cases hj
  obtain ⟨q, r, rfl, hr⟩ : ∃ q r, j = q * 5 + r ∧ r < 5 := ⟨j / 5, j % 5, by omega, by omega⟩
  rw [flatS_get L n q r (by omega) hr] at hj
  obtain ⟨⟨bl', off', e', t0, t1, t2, t3, t4⟩, _⟩ := h q (by omega)
  rw [e] at e'
  injection e' with e'
  injection e' with e1 e2
  subst e1 e2
  rw [add_off]
  obtain rfl | rfl | rfl | rfl | rfl : r = 0 ∨ r = 1 ∨ r = 2 ∨ r = 3 ∨ r = 4 := by omega
  · injection hj with hj; subst hj; exact t0
  · injection hj with hj; subst hj; exact t1
  · injection hj with hj; subst hj; exact t2
  · injection hj with hj; subst hj; exact t3
  · injection hj with hj; subst hj; exact t4

/-! the six expressions -/
def numC : Array Value := #[.int .i64 1, .int .i64 0, .string ⟨#[]⟩, .string ⟨#[]⟩, .slice none 0 0]
def oddC (b1 b2 : Nat) : Array Value := #[
  .int .i64 2, .int .i64 0, .string ⟨#[]⟩, .string ⟨#[103, 111, 110, 101]⟩, .slice none 0 0,
  .int .i64 3, .int .i64 0, .string ⟨#[]⟩, .string ⟨#[120]⟩, .slice (some ⟨b1, 0, none⟩) 1 1,
  .int .i64 4, .int .i64 0, .string ⟨#[]⟩, .string ⟨#[103, 111, 110, 101]⟩, .slice none 0 0,
  .int .i64 4, .int .i64 0, .string ⟨#[103, 111, 110, 101]⟩, .string ⟨#[102]⟩, .slice none 0 0,
  .int .i64 4, .int .i64 0, .string ⟨#[111, 110, 101]⟩, .string ⟨#[103]⟩, .slice (some ⟨b2, 0, none⟩) 1 1,
  .int .i64 4, .int .i64 0, .string ⟨#[]⟩, .string ⟨#[103]⟩, .slice none 0 0]
theorem odd_cells (b1 b2 : Nat) : ∀ i, i < 6 → ∀ j, j < 5 → (oddC b1 b2)[i * 5 + j]? = (five (oddN i b1 b2))[j]? := by
  have five5 : ∀ {P : Nat → Prop}, P 0 → P 1 → P 2 → P 3 → P 4 → ∀ j, j < 5 → P j := fun h0 h1 h2 h3 h4 j hj => by
    obtain rfl | rfl | rfl | rfl | rfl : j = 0 ∨ j = 1 ∨ j = 2 ∨ j = 3 ∨ j = 4 := by omega
    · exact h0
    · exact h1
    · exact h2
    · exact h3
    · exact h4
  exact six (five5 rfl rfl rfl rfl rfl) (five5 rfl rfl rfl rfl rfl) (five5 rfl rfl rfl rfl rfl) (five5 rfl rfl rfl rfl rfl) (five5 rfl rfl rfl rfl rfl) (five5 rfl rfl rfl rfl rfl)
theorem leGone : gone.size ≤ maxLen := by unfold maxLen; decide
theorem leX : nx.size ≤ maxLen := by unfold maxLen; decide
theorem leF : nf.size ≤ maxLen := by unfold maxLen; decide
theorem leG : ng.size ≤ maxLen := by unfold maxLen; decide
theorem leH : nh.size ≤ maxLen := by unfold maxLen; decide
theorem odd_size (b1 b2 : Nat) : ∀ i, i < 6 → (oddN i b1 b2).of.size ≤ maxLen ∧ (oddN i b1 b2).s.size ≤ maxLen ∧ (oddN i b1 b2).len ≤ maxLen := by
  have l1 : 1 ≤ maxLen := le1
  exact six ⟨le0, leGone, Nat.zero_le _⟩ ⟨le0, leX, l1⟩ ⟨le0, leGone, Nat.zero_le _⟩ ⟨leGone, leF, Nat.zero_le _⟩ ⟨nu_size 0, leG, l1⟩ ⟨le0, leG, Nat.zero_le _⟩
theorem odd_lies {W : World} {b1 b2 : Nat} (h1 : W.heap[b1]? = some (.cells numC 29)) (h2 : W.heap[b2]? = some (.cells numC 29)) : ∀ i, i < 6 → ELies W 12 (oddT i b1 b2) := by
  have one : ∀ b, W.heap[b]? = some (.cells numC 29) → ERow W (some ⟨b, 0, none⟩) 1 (fun _ => lf 1 0 .empty) 11 := fun b hb =>
    row_heap (many := 1) (pl := 0) (cs := numC) (t := 29) (fr := (0, 0)) hb (fun i hi j hj => by
      obtain rfl : i = 0 := by omega
      obtain rfl | rfl | rfl | rfl | rfl : j = 0 ∨ j = 1 ∨ j = 2 ∨ j = 3 ∨ j = 4 := by omega
      all_goals rfl) (fun _ _ => lf_num ⟨by decide, by decide⟩) fun _ _ => lf_lies _ _ _ _ _
  refine six ?_ ?_ ?_ ?_ ?_ ?_
  · exact fun i (hi : i < 0) => absurd hi (by omega)
  · exact one b1 h1
  · exact fun i (hi : i < 0) => absurd hi (by omega)
  · exact fun i (hi : i < 0) => absurd hi (by omega)
  · exact one b2 h2
  · exact fun i (hi : i < 0) => absurd hi (by omega)

/-- 'say ..', as cells -/
def sayL (be : Nat) : List Value := [.int .i64 6, .string ⟨#[]⟩, .slice (some ⟨be, 0, none⟩) 1 1, .slice none 0 0, .slice none 0 0]
theorem sayL_five (X : ETree) (be : Nat) : fiveS (sayT X be []) = sayL be := rfl

/-- with 'say ..' ahead -/
theorem cons_row {W : World} {gb be b1 b2 n i : Nat} {ao : Option Addr} {L : Nat → STree} {cs xc : Array Value} {t t2 : TypeId} {fr fr2 : Nat × Nat} (hi : i < 6) (hg : W.heap[gb]? = some (.cells cs t fr)) (hcs : ∀ (j : Nat) (u : Value), (sayL be ++ flatS L n)[j]? = some u → cs[j]? = some u)
    (hb : W.heap[be]? = some (.cells xc t2 fr2)) (hxc : ∀ j, j < 5 → xc[j]? = (five (oddN i b1 b2))[j]?) (h1 : W.heap[b1]? = some (.cells numC 29)) (h2 : W.heap[b2]? = some (.cells numC 29)) (hL : SRow W 12 ao n L) :
    SRow W 12 (some ⟨gb, 0, none⟩) (n + 1) (consS (sayT (oddT i b1 b2) be) L) := by
  intro k hk
  have cell : ∀ (j : Nat) (u : Value), (sayL be ++ flatS L n)[j]? = some u → W.cell? ⟨gb, 0 + j, none⟩ = some u := fun j u hu => by
    have := hcs j u hu
    rw [Nat.zero_add]
    simp [World.cell?, hg, this]
  rcases k with _ | k
  · refine ⟨⟨gb, 0, rfl, cell 0 _ rfl, cell 1 _ rfl, cell 2 _ rfl, cell 3 _ rfl, cell 4 _ rfl⟩, ⟨le0, le1, Nat.zero_le _, Nat.zero_le _⟩, ?_, SRow_none _, SRow_none _⟩
    intro q hq
    obtain rfl : q = 0 := by have : q < 1 := hq; omega
    have ce : ∀ j, j < 5 → W.cell? ⟨be, 0 + j, none⟩ = (five (oddN i b1 b2))[j]? := fun j hj => by
      rw [← hxc j hj, Nat.zero_add]
      simp [World.cell?, hb]
    exact ⟨⟨be, 0, rfl, ce 0 (by omega), ce 1 (by omega), ce 2 (by omega), ce 3 (by omega), ce 4 (by omega)⟩, odd_size b1 b2 i hi, odd_lies h1 h2 i hi⟩
  · have hkn : k < n := by omega
    obtain ⟨_, r⟩ := hL k hkn
    refine ⟨⟨gb, 0, rfl, ?_, ?_, ?_, ?_, ?_⟩, r⟩
    all_goals
      have cc : ∀ r, r < 5 → ∀ u, (fiveS (L k []))[r]? = some u → W.cell? ⟨gb, 0 + ((k + 1) * 5 + r), none⟩ = some u := fun r hr u hu => cell _ u (by
        rw [List.getElem?_append_right (by simp [sayL]; omega), show (k + 1) * 5 + r - (sayL be).length = k * 5 + r by simp [sayL]; omega, flatS_get L n k r hkn hr, hu])
    · exact cc 0 (by omega) _ rfl
    · exact cc 1 (by omega) _ rfl
    · exact cc 2 (by omega) _ rfl
    · exact cc 3 (by omega) _ rfl
    · exact cc 4 (by omega) _ rfl

/-- a program of raw things, whose first unit may have another body of its first function -/
structure PAt (W : World) (g m : Nat) (X : Nat → ULay) (x0 : ULay) : Prop where
  gt : ∃ cs, W.heap[g]? = some (.cells cs 41)
  row : ∀ i, i < m → ∀ j, j < 4 → W.cell? ⟨g, i * 4 + j, none⟩ = (ucells i (X i))[j]?
  first : UAt 0 x0 W
  rest : ∀ i, 1 ≤ i → i < m → UAt i (X i) W
  ends : ∀ k, k < 3 → x0.e k ≤ W.heap.size

/-- what does not turn with it -/
structure PFix (g m many : Nat) (X : Nat → ULay) : Prop where
  pos : 1 ≤ m ∧ m ≤ 3
  in_ : ∀ i, i < m → UIn (X i)
  ok : ∀ i, i < m → UOk many (X i)
  apart : ∀ i j, i < j → j < m → (X i).hi ≤ (X j).lo
  off : ∀ i, i < m → g < (X i).lo ∨ (X i).hi ≤ g

theorem plies_at {B : Nat} {w : World} {v : Value} {m : Nat} {X : Nat → ULay} (h : PLies B w v m m X) (hm : 1 ≤ m ∧ m ≤ 3) : ∃ g cap, v = .slice (some ⟨g, 0, none⟩) m cap ∧ B ≤ g ∧ PAt w g m X (X 0) ∧ PFix g m m X ∧ (∀ i, i < m → (X i).hi ≤ w.heap.size) := by
  obtain ⟨xs, ho, hx⟩ := h.row
  rcases ho.2 with ⟨rfl, h0⟩ | ⟨g, cap, cur, hv, hB, hg, r⟩
  · omega
  · have hown : v.ownBlock = some g := by rw [hv]; rfl
    have cell : ∀ i, i < m → ∀ j, j < 4 → w.cell? ⟨g, i * 4 + j, none⟩ = (ucells i (X i))[j]? := fun i hi j hj => by
      have e := hx i hi j hj
      obtain ⟨u, hu⟩ : ∃ u, (ucells i (X i))[j]? = some u := by
        obtain rfl | rfl | rfl | rfl : j = 0 ∨ j = 1 ∨ j = 2 ∨ j = 3 := by omega
        all_goals exact ⟨_, rfl⟩
      rw [hu] at e ⊢
      have := ho.cells hown (i * 4 + j) u e
      rw [add_off, Nat.zero_add] at this
      exact this
    refine ⟨g, cap, hv, hB, ⟨⟨cur, hg⟩, cell, h.at_ 0 (by omega), fun i _ hi => h.at_ i hi, fun k hk => ?_⟩, ⟨hm, h.in_, h.ok, h.apart, fun i hi => h.off i hi g hown⟩, h.high⟩
    have h1 := ((h.in_ 0 (by omega)).2.2.2.2.2 k hk)
    have h2 := (h.in_ 0 (by omega)).2.2.1
    have h3 := h.high 0 (by omega)
    omega

theorem PAt.below {W W2 : World} {g m : Nat} {X : Nat → ULay} {x0 : ULay} (h : PAt W g m X x0) (hi : ∀ i, i < m → UIn (X i)) (hb : Below W.heap.size W W2) : PAt W2 g m X x0 where
  gt := h.gt.elim fun cs h => ⟨cs, kept hb h⟩
  row := fun i hi j hj => by
    rw [← h.row i hi j hj]
    obtain ⟨cs, hg⟩ := h.gt
    exact hb.cell (p := ⟨g, i * 4 + j, none⟩) (Array.getElem?_eq_some_iff.1 hg).1
  first := by
    obtain ⟨h1, h2, h3, h4, h5, h6⟩ := h.first
    refine ⟨kept hb h1, kept hb h2, kept hb h3, kept hb h4, kept hb h5, fun k hk W' hA => h6 k hk W' fun b b1 b2 => (hA b b1 b2).trans (hb.block b ?_)⟩
    have := h.ends k hk
    omega
  rest := fun i h1 h2 => by
    have hu := h.rest i h1 h2
    refine ⟨kept hb hu.1, kept hb hu.2.1, kept hb hu.2.2.1, kept hb hu.2.2.2.1, kept hb hu.2.2.2.2.1, fun k hk W' hA => hu.2.2.2.2.2 k hk W' fun b b1 b2 => (hA b b1 b2).trans (hb.block b ?_)⟩
    have h3 := (hi i h2).2.2.2.2.2 k hk
    have h4 := (Array.getElem?_eq_some_iff.1 hu.2.2.1).1
    omega
  ends := fun k hk => Nat.le_trans (h.ends k hk) hb.size

/-- the program, as units -/
theorem pat_row {W : World} {g m : Nat} {X : Nat → ULay} {x0 : ULay} {u0 : UnitD} (h : PAt W g m X x0) (hf : PFix g m m X) (hu : UnitLies W u0) (h0 : W.cell? ⟨g, 0, none⟩ = some (.string u0.name) ∧ W.cell? ⟨g, 1, none⟩ = some (.slice u0.va u0.vl u0.vc) ∧ W.cell? ⟨g, 2, none⟩ = some (.slice u0.aa u0.al u0.ac) ∧ W.cell? ⟨g, 3, none⟩ = some (.slice u0.fa u0.fl u0.fc)) :
    URow W (some ⟨g, 0, none⟩) m (putU u0 X) := by
  intro i hi
  rcases i with _ | i
  · refine ⟨⟨g, 0, rfl, ?_, ?_, ?_, ?_⟩, hu⟩
    · exact h0.1
    · exact h0.2.1
    · exact h0.2.2.1
    · exact h0.2.2.2
  · have e : putU u0 X (i + 1) = unitD (i + 1) (X (i + 1)) := if_neg (by omega)
    rw [e]
    have c := h.row (i + 1) hi
    refine ⟨⟨g, 0, rfl, ?_, ?_, ?_, ?_⟩, unit_lies (h.rest (i + 1) (by omega) hi) (hf.ok (i + 1) hi)⟩
    all_goals rw [Nat.zero_add]
    · exact c 0 (by omega)
    · exact c 1 (by omega)
    · exact c 2 (by omega)
    · exact c 3 (by omega)

theorem body_lies {x : ULay} {W : World} (h : UAt 0 x W) (hn : ∀ k, k < 3 → x.n k ≤ 2000) : FRow W (some ⟨x.bf, 0, none⟩) 3 (func0 x) := by
  obtain ⟨h1, h2, h3, h4, h5, h6⟩ := h
  have l3 : ∀ k, k < 3 → x.n k ≤ maxLen := fun k hk => by have := hn k hk; unfold maxLen; omega
  have s3 : ∀ k, k < 3 → SRow W 12 (x.ao k) (x.n k) (x.L k) := fun k hk => h6 k hk W fun _ _ _ => rfl
  intro k hk
  obtain rfl | rfl | rfl : k = 0 ∨ k = 1 ∨ k = 2 := by omega
  · exact ⟨⟨x.bf, 0, rfl, cell_of_heap h3 rfl, cell_of_heap h3 rfl, cell_of_heap h3 rfl, cell_of_heap h3 rfl⟩, leF, le2, l3 0 hk, strs_pq h4, s3 0 hk⟩
  · exact ⟨⟨x.bf, 0, rfl, cell_of_heap h3 rfl, cell_of_heap h3 rfl, cell_of_heap h3 rfl, cell_of_heap h3 rfl⟩, leG, le1, l3 1 hk, strs_p h5, s3 1 hk⟩
  · exact ⟨⟨x.bf, 0, rfl, cell_of_heap h3 rfl, cell_of_heap h3 rfl, cell_of_heap h3 rfl, cell_of_heap h3 rfl⟩, leH, Nat.zero_le _, l3 2 hk, fun j (hj : j < 0) => absurd hj (by omega), s3 2 hk⟩
theorem le3 : 3 ≤ maxLen := by unfold maxLen; decide
theorem first_lies {x : ULay} {W : World} (h : UAt 0 x W) (hn : ∀ k, k < 3 → x.n k ≤ 2000) : UnitLies W (unitD 0 x) := ⟨⟨nu_size 0, le2, le1, le3⟩, strs_v h.1, arow_a h.2.1, body_lies h hn⟩
theorem firstV_lies {x : ULay} {W : World} {va : Option Addr} {vc : Nat} (h : UAt 0 x W) (hn : ∀ k, k < 3 → x.n k ≤ 2000) (hv : Strs W va 3 fun k => if k = 2 then narr else vz k) : UnitLies W (unitV x va vc) := ⟨⟨nu_size 0, le3, le1, le3⟩, hv, arow_a h.2.1, body_lies h hn⟩

/-- the body of the first function is turned -/
theorem pat_body {W : World} {g m : Nat} {X : Nat → ULay} {x0 : ULay} (h : PAt W g m X x0) (hf : PFix g m m X) (hx : x0.bv = (X 0).bv ∧ x0.ba = (X 0).ba ∧ x0.bf = (X 0).bf ∧ x0.p0 = (X 0).p0 ∧ x0.p1 = (X 0).p1) (he : ∀ k, 1 ≤ k → k < 3 → x0.e k ≤ x0.bf)
    (ao : Option Addr) (n c : Nat) (L : Nat → STree) (hL : ∀ W', Agree 0 W.heap.size (W.setCell ⟨x0.bf, 3, none⟩ (.slice ao n c)) W' → SRow W' 12 ao n L) :
    PAt (W.setCell ⟨x0.bf, 3, none⟩ (.slice ao n c)) g m X (setB x0 ao n c L 0 W.heap.size) := by
  obtain ⟨h1, h2, h3, h4, h5, h6⟩ := h.first
  obtain ⟨gcs, hg⟩ := h.gt
  have hz : (W.setCell ⟨x0.bf, 3, none⟩ (.slice ao n c)).heap.size = W.heap.size := by simp [World.setCell]
  have old : ∀ b, b ≠ x0.bf → (W.setCell ⟨x0.bf, 3, none⟩ (.slice ao n c)).heap[b]? = W.heap[b]? := fun b hb => Below.heap_setCell _ _ _ _ (by show b ≠ x0.bf; exact hb)
  have ne : ∀ {b : Nat} {cs : Array Value} {t : TypeId} {fr : Nat × Nat}, W.heap[b]? = some (.cells cs t fr) → t ≠ 37 → b ≠ x0.bf := fun hb ht e => by
    subst e
    rw [h3] at hb
    injection hb with hb
    injection hb with _ hb
    exact ht hb.symm
  have hnew : (W.setCell ⟨x0.bf, 3, none⟩ (.slice ao n c)).heap[x0.bf]? = some (.cells (fcells (setB x0 ao n c L 0 W.heap.size)) 37) := by
    simp [World.setCell, Array.getElem?_modify, h3]
    rfl
  refine ⟨⟨gcs, (old g (ne hg (by decide))).trans hg⟩, fun i hi j hj => ?_, ⟨(old _ (ne h1 (by decide))).trans h1, (old _ (ne h2 (by decide))).trans h2, hnew, (old _ (ne h4 (by decide))).trans h4, (old _ (ne h5 (by decide))).trans h5, fun k hk W' hA => ?_⟩, fun i i1 i2 => ?_, fun k hk => ?_⟩
  · rw [← h.row i hi j hj]
    exact World.cell?_of_block (old g (ne hg (by decide)))
  · rcases k with _ | k
    · exact hL W' hA
    · have e := he (k + 1) (by omega) hk
      have e1 : (setB x0 ao n c L 0 W.heap.size).s (k + 1) = x0.s (k + 1) := rfl
      have e2 : (setB x0 ao n c L 0 W.heap.size).e (k + 1) = x0.e (k + 1) := rfl
      rw [e1, e2] at hA
      have hr := h6 (k + 1) hk W' fun b b1 b2 => (hA b b1 b2).trans (old b (by omega))
      have e3 : (setB x0 ao n c L 0 W.heap.size).ao (k + 1) = x0.ao (k + 1) := rfl
      have e4 : (setB x0 ao n c L 0 W.heap.size).n (k + 1) = x0.n (k + 1) := rfl
      have e5 : (setB x0 ao n c L 0 W.heap.size).L (k + 1) = x0.L (k + 1) := rfl
      rw [e3, e4, e5]
      exact hr
  · have ha := hf.apart 0 i (by omega) i2
    have h0 := (hf.in_ 0 (by have := hf.pos; omega)).2.2.1
    exact UAt_agree (h.rest i i1 i2) (hf.in_ i i2) fun b b1 b2 => old b (by rw [hx.2.2.1]; omega)
  · rw [hz]
    rcases k with _ | k
    · exact Nat.le_refl _
    · have e2 : (setB x0 ao n c L 0 W.heap.size).e (k + 1) = x0.e (k + 1) := rfl
      rw [e2]
      exact h.ends (k + 1) hk
end Go.Proofs.YtgjemlhnlpglbaaDoor.PGoodMem

namespace Go.Proofs.YtgjemlhnlpglbaaDoor.PRegion
open Go.RowKit

variable {P : Program} {ops : Array Oper} {Q : Exit → Act → World → Prop} {md : Region.Mode}

/-- how many have not come up -/
def left (listed : Array Bool) : Nat → Nat
  | 0 => 0
  | n + 1 => left listed n + (if listed.getD n true = false then 1 else 0)

theorem left_set {listed : Array Bool} {i : Nat} (h : listed.getD i true = false) : ∀ n, i < n → left (listed.setIfInBounds i true) n + 1 ≤ left listed n
  | 0, hi => by omega
  | n + 1, hi => by
    have hb : i < listed.size := by
      rcases Nat.lt_or_ge i listed.size with h' | h'
      · exact h'
      · simp [Array.getD, Nat.not_lt.2 h'] at h
    have same : ∀ j, j ≠ i → (listed.setIfInBounds i true).getD j true = listed.getD j true := fun j hj => by
      simp [Array.getD_eq_getD_getElem?, Array.getElem?_setIfInBounds_ne (Ne.symm hj)]
    have le : ∀ n, left (listed.setIfInBounds i true) n ≤ left listed n := fun n => by
      induction n with
      | zero => exact Nat.le_refl _
      | succ n ih =>
        rw [left, left]
        by_cases e : n = i
        · subst e
          rw [h]
          simp [Array.getD_eq_getD_getElem?, hb]
          omega
        · rw [same n e]; omega
    rw [left, left]
    by_cases e : n = i
    · subst e
      have := le n
      rw [h]
      simp [Array.getD_eq_getD_getElem?, hb]
      omega
    · have := left_set h n (by omega)
      rw [same n e]
      omega

theorem ready_lt {listed : Array Bool} {i : Nat} (h : i ∈ Region.ready md ops listed) : i < ops.size ∧ listed.getD i true = false := by
  obtain ⟨h1, o, ho, _⟩ := mem_ready.1 h
  exact ⟨(Array.getElem?_eq_some_iff.1 ho).1, h1⟩

/-- WHAT HOLDS OF A STATE, AND IS KEPT BY EACH OPERATION THAT MAY COME UP, HOLDS AT THE END -/
theorem wpAny_inv (I : Array Bool → Act → World → Prop)
    (hstep : ∀ listed a w, I listed a w → ∀ i o, ops[i]? = some o → listed.getD i true = false → (∀ e ∈ o.after, Region.binds md e = true → listed.getD e.on false = true) → wpOp P ops Q i (I (listed.setIfInBounds i true)) a w)
    (hdone : ∀ listed a w, I listed a w → Region.ready md ops listed = [] → Q .normal a w) :
    ∀ fuel listed a w, left listed ops.size ≤ fuel → I listed a w → wpAny P md ops Q fuel listed a w := by
  intro fuel
  induction fuel with
  | zero =>
    intro listed a w hl hI
    have hr : Region.ready md ops listed = [] := by
      rcases h : Region.ready md ops listed with _ | ⟨i, r⟩
      · rfl
      · obtain ⟨h1, h2⟩ := ready_lt (md := md) (ops := ops) (listed := listed) (i := i) (by rw [h]; exact List.mem_cons_self ..)
        have := left_set h2 ops.size h1
        omega
    exact ⟨hr, hdone listed a w hI hr⟩
  | succ fuel ih =>
    intro listed a w hl hI
    refine ⟨hdone listed a w hI, fun i hi => ?_⟩
    obtain ⟨h1, h2⟩ := ready_lt hi
    obtain ⟨_, o, ho, ha⟩ := mem_ready.1 hi
    exact wpOp_mono (fun a' w' hI' => ih _ a' w' (by have := left_set h2 ops.size h1; omega) hI') (hstep listed a w hI i o ho h2 ha)

theorem left_all (n : Nat) : ∀ m, left (Array.replicate n false) m ≤ m
  | 0 => Nat.le_refl _
  | m + 1 => by
    rw [left]
    have := left_all n m
    split <;> omega

/-- the beginning -/
theorem wp_region_inv {id : Nat} {a : Act} {w : World} (hm : P.follows .mixedOrders = true) (I : Array Bool → Act → World → Prop) (h0 : I (Array.replicate ops.size false) a w.drew)
    (hstep : ∀ listed a w, I listed a w → ∀ i o, ops[i]? = some o → listed.getD i true = false → (∀ e ∈ o.after, Region.binds .any e = true → listed.getD e.on false = true) → wpOp P ops Q i (I (listed.setIfInBounds i true)) a w)
    (hdone : ∀ listed a w, I listed a w → Region.ready .any ops listed = [] → Q .normal a w) : (Code.region id ops true).wp P Q a w :=
  wp_region_any hm (wpAny_inv I hstep hdone _ _ _ _ (left_all _ _) h0)
end Go.Proofs.YtgjemlhnlpglbaaDoor.PRegion
