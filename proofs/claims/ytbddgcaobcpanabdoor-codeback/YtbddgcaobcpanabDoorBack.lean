/-
  THE WALK OF 'barbicankeep.CodeBack', given what 'Code' gives: it returns true, and lays new memory alone.
  Conditions: the table 'code.bounds' lies there; the contract of 'Code'.
-/
import Derived.Test.YtbddgcaobcpanabDoorGood
import Derived.Test.YtbddgcaobcpanabDoorEncode
import Derived.Test.YtbddgcaobcpanabDoorDecode
namespace Go.Proofs.YtbddgcaobcpanabDoor.Back
open Go.RowKit Tab Go.Proofs.YtbddgcaobcpanabDoor.Check Lists Parts Go.Proofs.YtbddgcaobcpanabDoor.Good Go.Proofs.YtbddgcaobcpanabDoor.Read

theorem first_zero {f : Nat → Int} {n : Nat} (h : ∀ k, k < n → f k = 0) : first f n = 0 := by
  induction n with
  | zero => rfl
  | succ n ih => rw [first_succ (ih fun k hk => h k (by omega))]; exact h n (by omega)

/-- the k-th instruction of a list -/
def nth (l : List Q) (k : Nat) : Q := l.getD k (0, 0, 0, 0)

theorem words_flat (l : List Q) : ∀ n, n ≤ l.length → words (fun k => (nth l k).1) (fun k => (nth l k).2.1) (fun k => (nth l k).2.2.1) (fun k => (nth l k).2.2.2) n = flat (l.take n) := by
  intro n
  induction n with
  | zero => intro _; simp [words, flat]
  | succ n ih =>
    intro hn
    rw [words, ih (by omega), List.take_succ_eq_append_getElem (by omega), flat_append]
    simp [flat, cellsOf, nth, List.getElem?_eq_getElem (show n < l.length by omega)]

theorem words_all (l : List Q) : words (fun k => (nth l k).1) (fun k => (nth l k).2.1) (fun k => (nth l k).2.2.1) (fun k => (nth l k).2.2.2) l.length = flat l := by
  rw [words_flat l _ (Nat.le_refl _), List.take_length]

theorem nth_ok {l : List Q} (h : Ok l) {k : Nat} (hk : k < l.length) : fault (nth l k).1 (nth l k).2.1 (nth l k).2.2.1 (nth l k).2.2.2 = 0 := by
  refine h _ ?_
  simp [nth, List.getElem?_eq_getElem hk]

/-- the words of a list, number by number -/
def wordAt (l : List Q) (j : Nat) : Int := if j % 4 = 0 then (nth l (j / 4)).1 else if j % 4 = 1 then (nth l (j / 4)).2.1 else if j % 4 = 2 then (nth l (j / 4)).2.2.1 else (nth l (j / 4)).2.2.2

theorem wordAt0 (l : List Q) (k : Nat) : wordAt l (4 * k) = (nth l k).1 := by
  have h1 : 4 * k % 4 = 0 := by omega
  have h2 : 4 * k / 4 = k := by omega
  simp [wordAt, h1, h2]
theorem wordAt1 (l : List Q) (k : Nat) : wordAt l (4 * k + 1) = (nth l k).2.1 := by
  have h1 : (4 * k + 1) % 4 = 1 := by omega
  have h2 : (4 * k + 1) / 4 = k := by omega
  simp [wordAt, h1, h2]
theorem wordAt2 (l : List Q) (k : Nat) : wordAt l (4 * k + 2) = (nth l k).2.2.1 := by
  have h1 : (4 * k + 2) % 4 = 2 := by omega
  have h2 : (4 * k + 2) / 4 = k := by omega
  simp [wordAt, h1, h2]
theorem wordAt3 (l : List Q) (k : Nat) : wordAt l (4 * k + 3) = (nth l k).2.2.2 := by
  have h1 : (4 * k + 3) % 4 = 3 := by omega
  have h2 : (4 * k + 3) / 4 = k := by omega
  simp [wordAt, h1, h2]

theorem flat_at (l : List Q) : ∀ j, j < 4 * l.length → (flat l)[j]? = some (.int .i64 (wordAt l j)) := by
  intro j hj
  obtain ⟨k, r, hr, rfl⟩ : ∃ k r, r < 4 ∧ j = 4 * k + r := ⟨j / 4, j % 4, by omega, by omega⟩
  have h := words_four (fun k => (nth l k).1) (fun k => (nth l k).2.1) (fun k => (nth l k).2.2.1) (fun k => (nth l k).2.2.2) l.length k (by omega)
  rw [words_all, Nat.mul_comm k 4] at h
  rcases (show r = 0 ∨ r = 1 ∨ r = 2 ∨ r = 3 by omega) with rfl | rfl | rfl | rfl
  · rw [Nat.add_zero, wordAt0]; exact h.1
  · rw [wordAt1]; exact h.2.1
  · rw [wordAt2]; exact h.2.2.1
  · rw [wordAt3]; exact h.2.2.2

theorem read_ok {l : List Q} (h : Ok l) {k : Nat} (hk : k < l.length) : faultRead (wordAt l (4 * k)) (wordAt l (4 * k + 1)) (wordAt l (4 * k + 2)) (wordAt l (4 * k + 3)) = 0 := by
  rw [wordAt0, wordAt1, wordAt2, wordAt3]
  have h0 := nth_ok h hk
  obtain ⟨h1, h2, h3, h4⟩ := words_of_ok h0
  rw [faultRead, if_pos ⟨⟨by omega, by omega⟩, h2, h3, h4⟩, h0]

/-- one word turned into a kind that there is not -/
def spoilt (l : List Q) (i : Nat) (p : Int) (j : Nat) : Int := if j = 4 * i then p else wordAt l j

theorem spoilt_first {l : List Q} (h : Ok l) {i : Nat} (hi : i < l.length) {p : Int} (hp : 16 ≤ p) (hp' : p ≤ 65535) :
    first (fun k => faultRead (spoilt l i p (4 * k)) (spoilt l i p (4 * k + 1)) (spoilt l i p (4 * k + 2)) (spoilt l i p (4 * k + 3))) l.length = 3 := by
  have same : ∀ k j, k ≠ i → j < 4 → spoilt l i p (4 * k + j) = wordAt l (4 * k + j) := fun k j hk hj => if_neg (by omega)
  have z : first (fun k => faultRead (spoilt l i p (4 * k)) (spoilt l i p (4 * k + 1)) (spoilt l i p (4 * k + 2)) (spoilt l i p (4 * k + 3))) i = 0 := first_zero fun k hk => by
    have s0 := same k 0 (by omega) (by omega)
    have s1 := same k 1 (by omega) (by omega)
    have s2 := same k 2 (by omega) (by omega)
    have s3 := same k 3 (by omega) (by omega)
    rw [Nat.add_zero] at s0
    rw [s0, s1, s2, s3]
    exact read_ok h (by omega)
  have at0 : spoilt l i p (4 * i) = p := if_pos rfl
  have at1 : spoilt l i p (4 * i + 1) = wordAt l (4 * i + 1) := if_neg (by omega)
  have at2 : spoilt l i p (4 * i + 2) = wordAt l (4 * i + 2) := if_neg (by omega)
  have at3 : spoilt l i p (4 * i + 3) = wordAt l (4 * i + 3) := if_neg (by omega)
  obtain ⟨_, h2, h3, h4⟩ := words_of_ok (nth_ok h hi)
  have f3 : faultRead (spoilt l i p (4 * i)) (spoilt l i p (4 * i + 1)) (spoilt l i p (4 * i + 2)) (spoilt l i p (4 * i + 3)) = 3 := by
    rw [at0, at1, at2, at3, wordAt1, wordAt2, wordAt3, faultRead, if_pos ⟨⟨by omega, hp'⟩, h2, h3, h4⟩, fault, if_neg (by omega)]
  rw [first_stops hi z (by rw [f3]; decide), f3]

theorem own_cells {w : World} {B g cp n : Nat} {l : List Q} (h : w.ownsRow B 38 4 (.slice (some ⟨g, 0, none⟩) n cp) n (flat l)) (hn : n = l.length) :
    ∀ i, i < n → w.cell? ⟨g, i * 4, none⟩ = some (.int .i64 (nth l i).1) ∧ w.cell? ⟨g, i * 4 + 1, none⟩ = some (.int .i64 (nth l i).2.1) ∧ w.cell? ⟨g, i * 4 + 2, none⟩ = some (.int .i64 (nth l i).2.2.1) ∧ w.cell? ⟨g, i * 4 + 3, none⟩ = some (.int .i64 (nth l i).2.2.2) := by
  intro i hi
  have hf := words_four (fun k => (nth l k).1) (fun k => (nth l k).2.1) (fun k => (nth l k).2.2.1) (fun k => (nth l k).2.2.2) l.length i (by omega)
  rw [words_all] at hf
  exact ⟨(h.cellAt _ (by omega)).trans hf.1, (h.cellAt _ (by omega)).trans hf.2.1, (h.cellAt _ (by omega)).trans hf.2.2.1, (h.cellAt _ (by omega)).trans hf.2.2.2⟩

theorem own_instrs {w : World} {B g cp n : Nat} {l : List Q} (h : w.ownsRow B 38 4 (.slice (some ⟨g, 0, none⟩) n cp) n (flat l)) (hn : n = l.length) :
    Instrs w (some ⟨g, 0, none⟩) n (fun k => (nth l k).1) (fun k => (nth l k).2.1) (fun k => (nth l k).2.2.1) (fun k => (nth l k).2.2.2) := by
  intro k hk
  obtain ⟨h0, h1, h2, h3⟩ := own_cells h hn k hk
  exact ⟨g, 0, rfl, by simpa using h0, by simpa using h1, by simpa using h2, by simpa using h3⟩

theorem own_ints {w : World} {B g cp m : Nat} {xs : List Value} {z : Nat → Int} (h : w.ownsRow B 3 1 (.slice (some ⟨g, 0, none⟩) m cp) m xs) (hz : ∀ j, j < m → xs[j]? = some (.int .i64 (z j))) :
    Ints w (some ⟨g, 0, none⟩) m z := by
  intro k hk
  exact ⟨g, 0, rfl, fun j hj => by rw [Nat.zero_add]; exact (h.cellAt j (by omega)).trans (hz j hj)⟩

theorem owns_base {w : World} {base base' : Nat} {e : TypeId} {size n : Nat} {v : Value} {xs : List Value} (h : w.ownsRow base e size v n xs) (hb : base' ≤ base) : w.ownsRow base' e size v n xs := by
  refine ⟨h.1, ?_⟩
  rcases h.2 with hn | ⟨g, cap, cur, e, hg, rest⟩
  · exact .inl hn
  · exact .inr ⟨g, cap, cur, e, by omega, rest⟩

/-- WHAT ENCODE GIVES of code that may be. -/
theorem encoded {w : World} (hl : Lies w) {B g cp n m : Nat} {l : List Q} (h : w.ownsRow B 38 4 (.slice (some ⟨g, 0, none⟩) n cp) n (flat l)) (hn : n = l.length) (hm : m = 4 * n) (h1 : 1 ≤ n) (h2 : n ≤ 1200) (hok : Ok l) :
    Calls Tryd.prog 5 #[.slice (some ⟨g, 0, none⟩) n cp] w fun e w' => Below w.heap.size w w' ∧ ∃ g2 cp2, e = .returned (.tuple #[.slice (some ⟨g2, 0, none⟩) m cp2, .int .i64 0]) ∧ w'.ownsRow w.heap.size 3 1 (.slice (some ⟨g2, 0, none⟩) m cp2) m (flat l) := by
  refine (Encode.encode (some ⟨g, 0, none⟩) n cp h2 _ _ _ _ w hl (own_instrs h hn)).mono ?_
  rintro e w' ⟨hb, v, rfl, h0, _⟩
  have hz : first (fun k => fault (nth l k).1 (nth l k).2.1 (nth l k).2.2.1 (nth l k).2.2.2) n = 0 := first_zero fun k hk => nth_ok hok (by omega)
  have ho := h0 hz
  rw [hz]
  subst hn hm
  rw [words_all] at ho
  obtain ⟨g2, cp2, rfl, _, _⟩ := own_form ho (by omega)
  exact ⟨hb, g2, cp2, rfl, ho⟩

/-- WHAT DECODE GIVES of the words of code that may be. -/
theorem decoded {w : World} (hl : Lies w) {B g cp n m : Nat} {l : List Q} (h : w.ownsRow B 3 1 (.slice (some ⟨g, 0, none⟩) m cp) m (flat l)) (hn : n = l.length) (hm : m = 4 * n) (h1 : 1 ≤ n) (h2 : n ≤ 1200) (hok : Ok l) :
    Calls Tryd.prog 6 #[.slice (some ⟨g, 0, none⟩) m cp] w fun e w' => Below w.heap.size w w' ∧ ∃ g2 cp2, e = .returned (.tuple #[.slice (some ⟨g2, 0, none⟩) n cp2, .int .i64 0]) ∧ w'.ownsRow w.heap.size 38 4 (.slice (some ⟨g2, 0, none⟩) n cp2) n (flat l) := by
  subst hm
  refine (Decode.decode (some ⟨g, 0, none⟩) n cp h2 (wordAt l) w hl (own_ints h fun j hj => flat_at l j (by omega)) _ (fun _ => rfl)).mono ?_
  rintro e w' ⟨hb, v, rfl, h0, _⟩
  have hz : first (fun k => faultRead (wordAt l (4 * k)) (wordAt l (4 * k + 1)) (wordAt l (4 * k + 2)) (wordAt l (4 * k + 3))) n = 0 := first_zero fun k hk => read_ok hok (by omega)
  have ho := h0 hz
  rw [hz]
  subst hn
  simp only [wordAt0, wordAt1, wordAt2, wordAt3] at ho
  rw [words_all] at ho
  obtain ⟨g2, cp2, rfl, _, _⟩ := own_form ho (by omega)
  exact ⟨hb, g2, cp2, rfl, ho⟩

/-- .. and where one of them is a kind that there is not. -/
theorem undecoded {w : World} (hl : Lies w) {B g cp n m i : Nat} {p : Int} {l : List Q} (h : w.ownsRow B 3 1 (.slice (some ⟨g, 0, none⟩) m cp) m ((flat l).set (i * 4) (.int .i64 p))) (hn : n = l.length) (hm : m = 4 * n) (h2 : n ≤ 1200) (hok : Ok l) (hi : i < n) (hp : 16 ≤ p) (hp' : p ≤ 65535) :
    Calls Tryd.prog 6 #[.slice (some ⟨g, 0, none⟩) m cp] w fun e w' => Below w.heap.size w w' ∧ e = .returned (.tuple #[.slice none 0 0, .int .i64 3]) := by
  subst hm
  have hlen := flat_length l
  rw [Nat.mul_comm i 4] at h
  refine (Decode.decode (some ⟨g, 0, none⟩) n cp h2 (spoilt l i p) w hl (own_ints h fun j hj => ?_) _ (fun _ => rfl)).mono ?_
  · by_cases hj' : j = 4 * i
    · rw [hj', List.getElem?_set_self (by omega), spoilt, if_pos rfl]
    · rw [List.getElem?_set_ne (by omega), spoilt, if_neg hj']
      exact flat_at l j (by omega)
  · rintro e w' ⟨hb, v, rfl, _, h0⟩
    subst hn
    have hz := spoilt_first hok hi hp hp'
    rw [hz]
    exact ⟨hb, by rw [h0 (by rw [hz]; decide)]⟩

theorem one_one (u : Value) (h : u ∈ [Value.int .i64 1]) : u.oneCell' = true := by
  simp at h
  subst h
  rfl

set_option maxRecDepth 20000 in
set_option maxHeartbeats 4000000 in
theorem walk (ao : Option Addr) (len cap : Nat) (w : World) (hl : Lies w) (n : Int) (wn : (Lit.int .i64 n).wf = true)
    (k4 : Calls Tryd.prog 4 #[.slice ao len cap, .agg #[.slice none 0 0], .int .i64 0] w fun e w' => Below w.heap.size w w' ∧ ∃ v l, e = .returned v ∧ 2 ≤ l.length ∧ l.length ≤ 122 ∧ Ok l ∧ w'.ownsRow w.heap.size 38 4 v l.length (flat l)) :
    Calls Tryd.prog 3 #[.slice ao len cap, .int .i64 n] w fun e w' => e = .returned (.bool true) ∧ Below w.heap.size w w' := by
  obtain ⟨i0, hi, hz0, hz1, hz2⟩ := info_parts info3
  have k4' : Calls Tryd.prog 4 #[.slice ao len cap, .agg #[.slice none 0 0], .int .i64 0] w fun e w' => Below w.heap.size w w' ∧ ∃ g cp N l, e = .returned (.slice (some ⟨g, 0, none⟩) N cp) ∧ Hid (N = l.length ∧ Ok l) ∧ 2 ≤ N ∧ N ≤ 122 ∧ w'.ownsRow w.heap.size 38 4 (.slice (some ⟨g, 0, none⟩) N cp) N (flat l) := by
    refine k4.mono ?_
    rintro e w' ⟨hb, v, l, rfl, h2, h3, hok, ho⟩
    obtain ⟨g, cp, rfl, _, _⟩ := own_form ho (by omega)
    exact ⟨hb, g, cp, _, l, rfl, ⟨rfl, hok⟩, h2, h3, ho⟩
  clear k4
  obtain ⟨pp, bpp, kpp⟩ := picked n wn 50 (by decide) (by decide)
  go_enter Tryd.func3, Tryd.ntmps3
  go_wp2_with (first
    | (go_at_call 4; refine k4'.mono ?_; rintro e w1 ⟨hb1, g, cp, N, l, rfl, HN, hN2, hN3, hc1⟩; obtain ⟨m, HM⟩ : ∃ m, Hid (m = 4 * N) := ⟨4 * N, rfl⟩; have hm4 : (4 : Int) ≤ m := (by have := HM.out; omega); have hq : (m : Int) / 4 = N := (by have := HM.out; omega); have hNI : (N : Int) ≤ 122 := (by omega); have hl1 := Lies_below hl hb1)
    | (go_at_call 5; refine (encoded hl1 hc1 HN.out.1 HM.out (by omega) (by omega) HN.out.2).mono ?_; rintro e w2 ⟨hb2, g2, cp2, rfl, hw2⟩; have hc2 := owns_below hc1 hb2; have hl2 := Lies_below hl1 hb2)
    | (go_at_call_of 6 g2; refine (decoded hl2 hw2 HN.out.1 HM.out (by omega) (by omega) HN.out.2).mono ?_; rintro e w3 ⟨hb3, g3, cp3, rfl, hd3⟩; have hc3 := owns_below hc2 hb3; have hw3 := owns_below hw2 hb3; have hl3 := Lies_below hl2 hb3)
    | (go_at_call 7; refine (clone _ m (by have := HM.out; omega) (by have := HM.out; omega) _ _ (flat_one l) _ hw5).mono ?_; rintro e w6 ⟨hb6, v6, rfl, ho6⟩; obtain ⟨g6, cp6, rfl, hg6, hg6'⟩ := own_form ho6 (by have := HM.out; omega); have hl6 := Lies_below hl5 hb6)
    | (go_at_call 7; refine (clone _ m (by have := HM.out; omega) (by have := HM.out; omega) _ _ (flat_one l) _ hw3).mono ?_; rintro e w4 ⟨hb4, v4, rfl, ho4⟩)
    | (at_builtin; refine wpList_append_own _ rfl (.tmp 33) (.tmp 34) 28 rfl w3.heap.size 3 i0 (.int .i64 0) 1 8 Tryd.underlying28 hi hz0 hz1 hz2 rfl (by decide) _ _ _ rfl (ho4.alloc _) ⟨w4.heap.size, 0, none⟩ 1 1 [.int .i64 1] rfl rfl news_at one_one (by have := HM.out; unfold maxLen; omega) (by have := HM.out; omega) (by have := hb4.size; simp; omega) ?_; intro v5 w5 ho5 hgrow5 _; have hb5 : Below w3.heap.size w3 w5 := (hb4.alloc hb4.size _).grown hgrow5 (by have := hb4.size; simp; omega) (fun k hk => (ho4.lt k hk).1); obtain ⟨g5, cp5, rfl, _, _⟩ := own_form ho5 (by omega); have hw5 := owns_below hw3 hb5; have hc5 := owns_below hc3 hb5; have hd5 := owns_below hd3 hb5; have hl5 := Lies_below hl3 hb5)
    | (go_at_call_of 6 g5; refine (Decode.form (some ⟨g5, 0, none⟩) (m + 1) cp5 (by have := HM.out; omega) (by have := HM.out; omega) _).mono ?_; rintro e w' ⟨rfl, rfl⟩)
    | (go_at_call_of 8 N; obtain ⟨kk, bkk, kkc⟩ := picked n wn N (by omega) (by omega); refine (kkc _).mono ?_; rintro e w' ⟨rfl, rfl⟩; have bk4 : (kk : Int) * 4 < m := (by have := HM.out; omega); have hfz := ho6.frozenAt (kk * 4); have hcl := (ho6.cellAt (kk * 4) (by have := HM.out; omega)).trans (flat_at l (kk * 4) (by have := HM.out; have := HN.out.1; omega)))
    | (go_at_call 8; refine (kpp _).mono ?_; rintro e w' ⟨rfl, rfl⟩)
    | (go_at_call_of 6 g6; have hs := (ho6.stored (kk * 4) (.int .i64 (16 + (pp : Int)))).1; have hb7 := hb6.setCell (p := ⟨g6, kk * 4, none⟩) hg6 (.int .i64 (16 + (pp : Int))); have hl7 := Lies_below hl5 hb7; have hc7 := owns_below hc5 hb7; have hd7 := owns_below hd5 hb7; refine (undecoded hl7 hs HN.out.1 HM.out (by omega) HN.out.2 (by omega) (by omega) (by omega)).mono ?_; rintro e w8 ⟨hb8, rfl⟩; have hc8 := owns_below hc7 hb8; have hd8 := owns_below hd7 hb8)
    | (go_at_call 9; refine (equal N (by omega) g cp g3 cp3 _ _ _ _ _ (own_cells hc8 HN.out.1) (own_cells hd8 HN.out.1)).mono ?_; rintro e w9 ⟨rfl, hb9⟩))
  go_ret
  have s1 := hb1.size
  have s2 := hb2.size
  have s3 := hb3.size
  have s5 := hb5.size
  have s7 := hb7.size
  have s8 := hb8.size
  exact ⟨rfl, (((((hb1.trans (hb2.mono s1)).trans (hb3.mono (by omega))).trans (hb5.mono (by omega))).trans (hb7.mono (by omega))).trans (hb8.mono (by omega))).trans (hb9.mono (by omega))⟩
end Go.Proofs.YtbddgcaobcpanabDoor.Back
