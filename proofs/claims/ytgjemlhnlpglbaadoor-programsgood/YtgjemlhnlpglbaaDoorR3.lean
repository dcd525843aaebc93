/-
  WHAT tree.Ident AND THE DOCUMENT's NameMay GIVE (P6.1): a word that is none of the ten.
  Conditions: none.
  EXPRESSIONS, STATEMENTS AND UNITS, PLAIN: what is refused of them (P6.2, P6.3), and how they lie in memory.
  Conditions: none.
  NAMES IN A BODY, PLAIN (P7.2): which names are there, and what is asked of whom.
  Conditions: none.
-/
import Derived.Test.YtgjemlhnlpglbaaDoorR2
import Derived.Test.YtgjemlhnlpglbaaDoorR1
namespace Go.Proofs.YtgjemlhnlpglbaaDoor.Ident
open Go.RowKit Bytes Words

/-- the ten words that are no names -/
def kwL : List (List UInt8) := [[117, 110, 105, 116], [118, 97, 114], [97, 114, 114, 97, 121], [102, 117, 110, 99], [111, 112, 101, 110], [105, 102], [101, 108, 115, 101], [119, 104, 105, 108, 101], [114, 101, 116, 117, 114, 110], [115, 97, 121]]

/-- P6.1 -/
def identB (s : ByteArray) : Bool := !(kwL.any fun k => s.toList == k) && wordB s.data.toList

theorem ident_kw {s : ByteArray} {k : List UInt8} (hk : k ∈ kwL) (h : (s.toList == k) = true) : identB s = false := by
  have : (kwL.any fun k => s.toList == k) = true := List.any_eq_true.2 ⟨k, hk, h⟩
  simp [identB, this]

set_option maxHeartbeats 1000000 in
theorem ident (s : ByteArray) (hs : s.size ≤ maxLen) (w : World) : Calls Tryd.prog 53 #[.string s] w fun e w' => e = .returned (.bool (identB s)) ∧ Below w.heap.size w w' := by
  rcases Bool.eq_false_or_eq_true (s.toList == [117, 110, 105, 116]) with h0 | h0
  · rw [ident_kw (by decide) h0]
    go_enter Tryd.func53, Tryd.ntmps53
    go_wp2
    go_ret
    exact ⟨rfl, Below.refl _ _⟩
  rcases Bool.eq_false_or_eq_true (s.toList == [118, 97, 114]) with h1 | h1
  · rw [ident_kw (by decide) h1]
    go_enter Tryd.func53, Tryd.ntmps53
    go_wp2
    go_ret
    exact ⟨rfl, Below.refl _ _⟩
  rcases Bool.eq_false_or_eq_true (s.toList == [97, 114, 114, 97, 121]) with h2 | h2
  · rw [ident_kw (by decide) h2]
    go_enter Tryd.func53, Tryd.ntmps53
    go_wp2
    go_ret
    exact ⟨rfl, Below.refl _ _⟩
  rcases Bool.eq_false_or_eq_true (s.toList == [102, 117, 110, 99]) with h3 | h3
  · rw [ident_kw (by decide) h3]
    go_enter Tryd.func53, Tryd.ntmps53
    go_wp2
    go_ret
    exact ⟨rfl, Below.refl _ _⟩
  rcases Bool.eq_false_or_eq_true (s.toList == [111, 112, 101, 110]) with h4 | h4
  · rw [ident_kw (by decide) h4]
    go_enter Tryd.func53, Tryd.ntmps53
    go_wp2
    go_ret
    exact ⟨rfl, Below.refl _ _⟩
  rcases Bool.eq_false_or_eq_true (s.toList == [105, 102]) with h5 | h5
  · rw [ident_kw (by decide) h5]
    go_enter Tryd.func53, Tryd.ntmps53
    go_wp2
    go_ret
    exact ⟨rfl, Below.refl _ _⟩
  rcases Bool.eq_false_or_eq_true (s.toList == [101, 108, 115, 101]) with h6 | h6
  · rw [ident_kw (by decide) h6]
    go_enter Tryd.func53, Tryd.ntmps53
    go_wp2
    go_ret
    exact ⟨rfl, Below.refl _ _⟩
  rcases Bool.eq_false_or_eq_true (s.toList == [119, 104, 105, 108, 101]) with h7 | h7
  · rw [ident_kw (by decide) h7]
    go_enter Tryd.func53, Tryd.ntmps53
    go_wp2
    go_ret
    exact ⟨rfl, Below.refl _ _⟩
  rcases Bool.eq_false_or_eq_true (s.toList == [114, 101, 116, 117, 114, 110]) with h8 | h8
  · rw [ident_kw (by decide) h8]
    go_enter Tryd.func53, Tryd.ntmps53
    go_wp2
    go_ret
    exact ⟨rfl, Below.refl _ _⟩
  rcases Bool.eq_false_or_eq_true (s.toList == [115, 97, 121]) with h9 | h9
  · rw [ident_kw (by decide) h9]
    go_enter Tryd.func53, Tryd.ntmps53
    go_wp2
    go_ret
    exact ⟨rfl, Below.refl _ _⟩
  have e : identB s = wordB s.data.toList := by simp only [identB, kwL, List.any_cons, List.any_nil, h0, h1, h2, h3, h4, h5, h6, h7, h8, h9, Bool.or_false, Bool.not_false, Bool.true_and]
  rw [e]
  go_enter Tryd.func53, Tryd.ntmps53
  go_wp2_with (go_at_call 68; refine (word s hs _).mono ?_; rintro e w' ⟨rfl, rfl⟩)
  go_ret
  exact ⟨rfl, (Below.refl _ _).alloc (Nat.le_refl _) _⟩

theorem toList_loop (s : ByteArray) : ∀ n i r, s.size - i = n → ByteArray.toList.loop s i r = r.reverse ++ s.data.toList.drop i := by
  intro n
  induction n with
  | zero =>
    intro i r h
    rw [ByteArray.toList.loop.eq_def, if_neg (by omega), List.drop_eq_nil_of_le (by have : s.data.toList.length = s.size := rfl; omega), List.append_nil]
  | succ n ih =>
    intro i r h
    have hi : i < s.data.toList.length := by have : s.data.toList.length = s.size := rfl; omega
    rw [ByteArray.toList.loop.eq_def, if_pos (by omega), ih (i + 1) _ (by omega), List.drop_eq_getElem_cons hi]
    have e : s.get! i = s.data.toList[i] := by
      obtain ⟨⟨l⟩⟩ := s
      have hl : i < l.length := hi
      show l.toArray[i]! = l[i]
      simp [hl]
    rw [e]
    simp
theorem toList_eq (s : ByteArray) : s.toList = s.data.toList := by
  rw [ByteArray.toList, toList_loop s _ 0 [] rfl]
  rfl

/-- stands it among the first n? -/
def foundB (z : Nat → ByteArray) (s : ByteArray) : Nat → Bool
  | 0 => false
  | n + 1 => foundB z s n || ((z n).toList == s.toList)

theorem foundB_yes {z : Nat → ByteArray} {s : ByteArray} : ∀ {n j : Nat}, j < n → ((z j).toList == s.toList) = true → foundB z s n = true
  | 0, j, hj, _ => by omega
  | n + 1, j, hj, h => by
    rw [foundB]
    rcases Nat.lt_succ_iff_lt_or_eq.1 hj with h1 | rfl
    · rw [foundB_yes h1 h, Bool.true_or]
    · rw [h, Bool.or_true]

theorem foundB_next {z : Nat → ByteArray} {s : ByteArray} {n : Nat} (h : foundB z s n = false) (h1 : ((z n).toList == s.toList) = false) : foundB z s (n + 1) = false := by rw [foundB, h, h1]; rfl

/-- texts that lie in a row -/
def Texts (w : World) (g off n : Nat) (z : Nat → ByteArray) : Prop := ∀ j, j < n → w.cell? ⟨g, off + j, none⟩ = some (.string (z j))

def kwZ (j : Nat) : ByteArray := ⟨(kwL.getD j []).toArray⟩

theorem kw_texts (w : World) : Texts (w.alloc (.cells #[.string ⟨#[117, 110, 105, 116]⟩, .string ⟨#[118, 97, 114]⟩, .string ⟨#[97, 114, 114, 97, 121]⟩, .string ⟨#[102, 117, 110, 99]⟩, .string ⟨#[111, 112, 101, 110]⟩, .string ⟨#[105, 102]⟩, .string ⟨#[101, 108, 115, 101]⟩, .string ⟨#[119, 104, 105, 108, 101]⟩, .string ⟨#[114, 101, 116, 117, 114, 110]⟩, .string ⟨#[115, 97, 121]⟩] 9)) w.heap.size 0 10 kwZ := by
  intro j hj
  match j, hj with
  | 0, _ => simp [kwZ, kwL]
  | 1, _ => simp [kwZ, kwL]
  | 2, _ => simp [kwZ, kwL]
  | 3, _ => simp [kwZ, kwL]
  | 4, _ => simp [kwZ, kwL]
  | 5, _ => simp [kwZ, kwL]
  | 6, _ => simp [kwZ, kwL]
  | 7, _ => simp [kwZ, kwL]
  | 8, _ => simp [kwZ, kwL]
  | 9, _ => simp [kwZ, kwL]

theorem kwZ_found (s : ByteArray) : foundB kwZ s 10 = kwL.any fun k => s.toList == k := by
  have e : ∀ j, ((kwZ j).toList == s.toList) = (s.toList == kwL.getD j []) := fun j => by rw [toList_eq (kwZ j)]; exact Bool.beq_comm
  simp only [foundB, e, kwL, List.getD_cons_zero, List.getD_cons_succ, List.any_cons, List.any_nil, Bool.or_false, Bool.false_or, Bool.or_assoc]

end Go.Proofs.YtgjemlhnlpglbaaDoor.Ident

namespace Go.Proofs.YtgjemlhnlpglbaaDoor.Trees
open Go.RowKit Go.Proofs.YtgjemlhnlpglbaaDoor.Ident

/-- the first that is not 0 among the first n -/
def first (f : Nat → Int) : Nat → Int
  | 0 => 0
  | n + 1 => if first f n = 0 then f n else first f n

theorem first_succ {f : Nat → Int} {n : Nat} (h : first f n = 0) : first f (n + 1) = f n := by simp [first, h]

theorem first_stays {f : Nat → Int} {k n : Nat} (hk : k ≤ n) (h : first f k ≠ 0) : first f n = first f k := by
  induction n with
  | zero => obtain rfl : k = 0 := by omega
            rfl
  | succ n ih =>
    by_cases hkn : k = n + 1
    · rw [hkn]
    · have := ih (by omega)
      simp [first, this, h]

theorem first_stops {f : Nat → Int} {k n : Nat} (hk : k < n) (h : first f k = 0) (hf : f k ≠ 0) : first f n = f k := by
  have h1 := first_succ h
  rw [first_stays (k := k + 1) (by omega) (by rw [h1]; exact hf), h1]

theorem first_zero {f : Nat → Int} {n : Nat} (h : first f n = 0) : ∀ k, k < n → f k = 0 := by
  intro k hk
  have h1 : first f (k + 1) = 0 := by
    by_cases h2 : first f (k + 1) = 0
    · exact h2
    · rw [← first_stays (n := n) (by omega) h2]; exact h
  have h0 : first f k = 0 := by
    by_cases h2 : first f k = 0
    · exact h2
    · rw [← first_stays (n := k + 1) (by omega) h2]; exact h1
  rw [← first_succ h0]; exact h1

/-- an expression, without its Args, and where these lie -/
structure ENode where
  kind : Int
  n : Int
  of : ByteArray
  s : ByteArray
  ao : Option Addr
  len : Nat
  cap : Nat

/-- an expression: what stands at each way down -/
abbrev ETree := List Nat → ENode
def sub (T : ETree) (i : Nat) : ETree := fun p => T (i :: p)

/-- its cells -/
def ecells (x : ENode) : Array Value := #[.int .i64 x.kind, .int .i64 x.n, .string x.of, .string x.s, .slice x.ao x.len x.cap]

/-- P6.2: it has what its kind has, and nothing else -/
def exprForm (x : ENode) : Bool :=
  if x.kind = 1 then x.of.toList == [] && x.s.toList == [] && decide (x.len = 0)
  else if x.kind = 2 then decide (x.n = 0) && x.of.toList == [] && identB x.s && decide (x.len = 0)
  else if x.kind = 3 then decide (x.n = 0) && x.of.toList == [] && identB x.s && decide (x.len = 1)
  else if x.kind = 4 then decide (x.n = 0) && (x.of.toList == [] || identB x.of) && identB x.s
  else x.of.toList == [] && x.s.toList == [] && decide (x.len = 2)
/-- a number that may be, an operation that there is -/
def exprRange (x : ENode) : Bool :=
  if x.kind = 1 then decide (0 ≤ x.n ∧ x.n ≤ 65535) else if x.kind = 5 then decide (1 ≤ x.n ∧ x.n ≤ 10) else true

/-- what is refused of an expression itself -/
def nodeFault (x : ENode) : Int :=
  if 1 ≤ x.kind ∧ x.kind ≤ 5 then
    if x.len ≤ 4 then
      if exprForm x = true then
        if exprRange x = true then 0 else 2
      else 4
    else 1
  else 3

/-- P6.2, with so many depths left -/
def exprFault : Nat → ETree → Int
  | 0, _ => 1
  | d + 1, T => if nodeFault (T []) = 0 then first (fun i => exprFault d (sub T i)) (T []).len else nodeFault (T [])

/-- a statement, without those within it -/
structure SNode where
  kind : Int
  s : ByteArray
  ea : Option Addr
  el : Nat
  ec : Nat
  ex : Nat → ETree
  ba : Option Addr
  bl : Nat
  bc : Nat
  la : Option Addr
  ll : Nat
  lc : Nat

/-- a statement: what stands at each way down (false: in the Body, true: in the Else) -/
abbrev STree := List (Bool × Nat) → SNode
def inBody (T : STree) (i : Nat) : STree := fun p => T ((false, i) :: p)
def inElse (T : STree) (i : Nat) : STree := fun p => T ((true, i) :: p)

def scells (x : SNode) : Array Value := #[.int .i64 x.kind, .string x.s, .slice x.ea x.el x.ec, .slice x.ba x.bl x.bc, .slice x.la x.ll x.lc]

/-- P6.3: it has what its kind has, and nothing else -/
def stmtForm (x : SNode) : Bool :=
  (if x.kind ≤ 2 then identB x.s else x.s.toList == []) && decide (x.el = if x.kind = 2 then 2 else 1) && (decide (x.kind = 3 ∨ x.kind = 4) || decide (x.bl = 0)) && (decide (x.kind = 3) || decide (x.ll = 0))

/-- what is refused of a statement, but for those within it -/
def headFault (x : SNode) : Int :=
  if 1 ≤ x.kind ∧ x.kind ≤ 6 then
    if stmtForm x = true then first (fun j => exprFault 12 (x.ex j)) x.el else 4
  else 3

/-- P6.3, of statements, with so many depths left -/
def stmtsFault : Nat → Nat → (Nat → STree) → Int
  | 0, _, _ => 1
  | d + 1, len, L => first (fun i => if headFault (L i []) = 0 then if stmtsFault d (L i []).bl (inBody (L i)) = 0 then stmtsFault d (L i []).ll (inElse (L i)) else stmtsFault d (L i []).bl (inBody (L i)) else headFault (L i [])) len
/-- of one -/
def stmtFault (d : Nat) (T : STree) : Int :=
  if headFault (T []) = 0 then if stmtsFault d (T []).bl (inBody T) = 0 then stmtsFault d (T []).ll (inElse T) else stmtsFault d (T []).bl (inBody T) else headFault (T [])
theorem stmtsFault_succ (d len : Nat) (L : Nat → STree) : stmtsFault (d + 1) len L = first (fun i => stmtFault d (L i)) len := rfl

/-- a sum of the first n -/
def sum (f : Nat → Nat) : Nat → Nat
  | 0 => 0
  | n + 1 => sum f n + f n
/-- how many statements there are -/
def count : Nat → Nat → (Nat → STree) → Nat
  | 0, len, _ => len
  | d + 1, len, L => len + sum (fun i => count d (L i []).bl (inBody (L i)) + count d (L i []).ll (inElse (L i))) len

/-- the Args of an expression lie there, down to a depth -/
def ELies (w : World) : Nat → ETree → Prop
  | 0, _ => True
  | d + 1, T => ∀ i, i < (T []).len → (∃ bl off, (T []).ao = some ⟨bl, off, none⟩ ∧ w.cell? ⟨bl, off + i * 5, none⟩ = some (.int .i64 (T [i]).kind) ∧ w.cell? ⟨bl, off + i * 5 + 1, none⟩ = some (.int .i64 (T [i]).n) ∧
      w.cell? ⟨bl, off + i * 5 + 2, none⟩ = some (.string (T [i]).of) ∧ w.cell? ⟨bl, off + i * 5 + 3, none⟩ = some (.string (T [i]).s) ∧ w.cell? ⟨bl, off + i * 5 + 4, none⟩ = some (.slice (T [i]).ao (T [i]).len (T [i]).cap)) ∧
    ((T [i]).of.size ≤ maxLen ∧ (T [i]).s.size ≤ maxLen ∧ (T [i]).len ≤ maxLen) ∧ ELies w d (sub T i)

/-- expressions lie there in a row -/
def ERow (w : World) (ao : Option Addr) (len : Nat) (E : Nat → ETree) (d : Nat) : Prop :=
  ∀ i, i < len → (∃ bl off, ao = some ⟨bl, off, none⟩ ∧ w.cell? ⟨bl, off + i * 5, none⟩ = some (.int .i64 (E i []).kind) ∧ w.cell? ⟨bl, off + i * 5 + 1, none⟩ = some (.int .i64 (E i []).n) ∧
      w.cell? ⟨bl, off + i * 5 + 2, none⟩ = some (.string (E i []).of) ∧ w.cell? ⟨bl, off + i * 5 + 3, none⟩ = some (.string (E i []).s) ∧ w.cell? ⟨bl, off + i * 5 + 4, none⟩ = some (.slice (E i []).ao (E i []).len (E i []).cap)) ∧
    ((E i []).of.size ≤ maxLen ∧ (E i []).s.size ≤ maxLen ∧ (E i []).len ≤ maxLen) ∧ ELies w d (E i)

theorem ELies_succ {w : World} {d : Nat} {T : ETree} : ELies w (d + 1) T ↔ ERow w (T []).ao (T []).len (sub T) d := Iff.rfl

/-- statements lie there in a row, down to a depth -/
def SRow (w : World) : Nat → Option Addr → Nat → (Nat → STree) → Prop
  | 0, _, _, _ => True
  | d + 1, ao, len, L => ∀ i, i < len → (∃ bl off, ao = some ⟨bl, off, none⟩ ∧ w.cell? ⟨bl, off + i * 5, none⟩ = some (.int .i64 (L i []).kind) ∧ w.cell? ⟨bl, off + i * 5 + 1, none⟩ = some (.string (L i []).s) ∧
      w.cell? ⟨bl, off + i * 5 + 2, none⟩ = some (.slice (L i []).ea (L i []).el (L i []).ec) ∧ w.cell? ⟨bl, off + i * 5 + 3, none⟩ = some (.slice (L i []).ba (L i []).bl (L i []).bc) ∧ w.cell? ⟨bl, off + i * 5 + 4, none⟩ = some (.slice (L i []).la (L i []).ll (L i []).lc)) ∧
    ((L i []).s.size ≤ maxLen ∧ (L i []).el ≤ maxLen ∧ (L i []).bl ≤ maxLen ∧ (L i []).ll ≤ maxLen) ∧ ERow w (L i []).ea (L i []).el (L i []).ex 12 ∧ SRow w d (L i []).ba (L i []).bl (inBody (L i)) ∧ SRow w d (L i []).la (L i []).ll (inElse (L i))

/-- what a statement names lies there -/
def SLies (w : World) (d : Nat) (T : STree) : Prop :=
  ((T []).s.size ≤ maxLen ∧ (T []).el ≤ maxLen ∧ (T []).bl ≤ maxLen ∧ (T []).ll ≤ maxLen) ∧ ERow w (T []).ea (T []).el (T []).ex 12 ∧ SRow w d (T []).ba (T []).bl (inBody T) ∧ SRow w d (T []).la (T []).ll (inElse T)

theorem cell5 {w w' : World} {bl off : Nat} {v0 v1 v2 v3 v4 : Value} (hb : Below w.heap.size w w') (h : w.cell? ⟨bl, off, none⟩ = some v0 ∧ w.cell? ⟨bl, off + 1, none⟩ = some v1 ∧ w.cell? ⟨bl, off + 2, none⟩ = some v2 ∧ w.cell? ⟨bl, off + 3, none⟩ = some v3 ∧ w.cell? ⟨bl, off + 4, none⟩ = some v4) :
    w'.cell? ⟨bl, off, none⟩ = some v0 ∧ w'.cell? ⟨bl, off + 1, none⟩ = some v1 ∧ w'.cell? ⟨bl, off + 2, none⟩ = some v2 ∧ w'.cell? ⟨bl, off + 3, none⟩ = some v3 ∧ w'.cell? ⟨bl, off + 4, none⟩ = some v4 := by
  obtain ⟨t0, t1, t2, t3, t4⟩ := h
  have h0 := World.block_lt_of_cell? w _ t0
  exact ⟨(hb.cell h0).trans t0, (hb.cell (p := ⟨bl, off + 1, none⟩) h0).trans t1, (hb.cell (p := ⟨bl, off + 2, none⟩) h0).trans t2, (hb.cell (p := ⟨bl, off + 3, none⟩) h0).trans t3, (hb.cell (p := ⟨bl, off + 4, none⟩) h0).trans t4⟩

theorem ELies_below {w w' : World} (hb : Below w.heap.size w w') : ∀ {d : Nat} {T : ETree}, ELies w d T → ELies w' d T
  | 0, _, _ => trivial
  | d + 1, T, h => fun i hi => by
    obtain ⟨⟨bl, off, e, t⟩, z, r⟩ := h i hi
    exact ⟨⟨bl, off, e, cell5 hb t⟩, z, ELies_below hb r⟩

theorem ERow_below {w w' : World} (hb : Below w.heap.size w w') {ao : Option Addr} {len d : Nat} {E : Nat → ETree} (h : ERow w ao len E d) : ERow w' ao len E d := fun i hi => by
  obtain ⟨⟨bl, off, e, t⟩, z, r⟩ := h i hi
  exact ⟨⟨bl, off, e, cell5 hb t⟩, z, ELies_below hb r⟩

theorem SRow_below {w w' : World} (hb : Below w.heap.size w w') : ∀ {d : Nat} {ao : Option Addr} {len : Nat} {L : Nat → STree}, SRow w d ao len L → SRow w' d ao len L
  | 0, _, _, _, _ => trivial
  | d + 1, ao, len, L, h => fun i hi => by
    obtain ⟨⟨bl, off, e, t⟩, z, r, b, l⟩ := h i hi
    exact ⟨⟨bl, off, e, cell5 hb t⟩, z, ERow_below hb r, SRow_below hb b, SRow_below hb l⟩

theorem SLies_below {w w' : World} (hb : Below w.heap.size w w') {d : Nat} {T : STree} (h : SLies w d T) : SLies w' d T := ⟨h.1, ERow_below hb h.2.1, SRow_below hb h.2.2.1, SRow_below hb h.2.2.2⟩

/-- texts that were handed in lie there -/
def Strs (w : World) (ao : Option Addr) (len : Nat) (z : Nat → ByteArray) : Prop :=
  ∀ i, i < len → (∃ bl off, ao = some ⟨bl, off, none⟩ ∧ w.cell? ⟨bl, off + i, none⟩ = some (.string (z i))) ∧ (z i).size ≤ maxLen

theorem Strs_below {w w' : World} (hb : Below w.heap.size w w') {ao : Option Addr} {len : Nat} {z : Nat → ByteArray} (h : Strs w ao len z) : Strs w' ao len z := fun i hi => by
  obtain ⟨⟨bl, off, e, t⟩, r⟩ := h i hi
  exact ⟨⟨bl, off, e, (hb.cell (World.block_lt_of_cell? w _ t)).trans t⟩, r⟩

/-- names that are none -/
def namesFault (z : Nat → ByteArray) (n : Nat) : Int := first (fun i => if identB (z i) = true then 0 else 4) n

/-- a function of a unit -/
structure FuncD where
  name : ByteArray
  op : Bool
  pa : Option Addr
  pl : Nat
  pc : Nat
  ps : Nat → ByteArray
  ba : Option Addr
  bl : Nat
  bc : Nat
  body : Nat → STree

/-- P6.3, of a function -/
def funcFault (f : FuncD) : Int :=
  if identB f.name = true then
    if f.pl ≤ 4 then
      if namesFault f.ps f.pl = 0 then stmtsFault 12 f.bl f.body else namesFault f.ps f.pl
    else 1
  else 4

def FuncLies (w : World) (f : FuncD) : Prop := f.name.size ≤ maxLen ∧ f.pl ≤ maxLen ∧ f.bl ≤ maxLen ∧ Strs w f.pa f.pl f.ps ∧ SRow w 12 f.ba f.bl f.body

theorem FuncLies_below {w w' : World} (hb : Below w.heap.size w w') {f : FuncD} (h : FuncLies w f) : FuncLies w' f := ⟨h.1, h.2.1, h.2.2.1, Strs_below hb h.2.2.2.1, SRow_below hb h.2.2.2.2⟩

def FRow (w : World) (ao : Option Addr) (len : Nat) (F : Nat → FuncD) : Prop :=
  ∀ i, i < len → (∃ bl off, ao = some ⟨bl, off, none⟩ ∧ w.cell? ⟨bl, off + i * 4, none⟩ = some (.string (F i).name) ∧ w.cell? ⟨bl, off + i * 4 + 1, none⟩ = some (.bool (F i).op) ∧
      w.cell? ⟨bl, off + i * 4 + 2, none⟩ = some (.slice (F i).pa (F i).pl (F i).pc) ∧ w.cell? ⟨bl, off + i * 4 + 3, none⟩ = some (.slice (F i).ba (F i).bl (F i).bc)) ∧ FuncLies w (F i)

theorem FRow_below {w w' : World} (hb : Below w.heap.size w w') {ao : Option Addr} {len : Nat} {F : Nat → FuncD} (h : FRow w ao len F) : FRow w' ao len F := fun i hi => by
  obtain ⟨⟨bl, off, e, t0, t1, t2, t3⟩, r⟩ := h i hi
  have h0 := World.block_lt_of_cell? w _ t0
  exact ⟨⟨bl, off, e, (hb.cell h0).trans t0, (hb.cell (p := ⟨bl, off + i * 4 + 1, none⟩) h0).trans t1, (hb.cell (p := ⟨bl, off + i * 4 + 2, none⟩) h0).trans t2, (hb.cell (p := ⟨bl, off + i * 4 + 3, none⟩) h0).trans t3⟩, FuncLies_below hb r⟩

/-- arrays of a unit -/
def ARow (w : World) (ao : Option Addr) (len : Nat) (nm : Nat → ByteArray) (sz : Nat → Int) : Prop :=
  ∀ i, i < len → (∃ bl off, ao = some ⟨bl, off, none⟩ ∧ w.cell? ⟨bl, off + i * 2, none⟩ = some (.string (nm i)) ∧ w.cell? ⟨bl, off + i * 2 + 1, none⟩ = some (.int .i64 (sz i))) ∧ (nm i).size ≤ maxLen

theorem ARow_below {w w' : World} (hb : Below w.heap.size w w') {ao : Option Addr} {len : Nat} {nm : Nat → ByteArray} {sz : Nat → Int} (h : ARow w ao len nm sz) : ARow w' ao len nm sz := fun i hi => by
  obtain ⟨⟨bl, off, e, t0, t1⟩, r⟩ := h i hi
  have h0 := World.block_lt_of_cell? w _ t0
  exact ⟨⟨bl, off, e, (hb.cell h0).trans t0, (hb.cell (p := ⟨bl, off + i * 2 + 1, none⟩) h0).trans t1⟩, r⟩

def arrayFault (nm : ByteArray) (sz : Int) : Int := if identB nm = true then if 1 ≤ sz ∧ sz ≤ 10 then 0 else 2 else 4

/-- a unit -/
structure UnitD where
  name : ByteArray
  va : Option Addr
  vl : Nat
  vc : Nat
  vs : Nat → ByteArray
  aa : Option Addr
  al : Nat
  ac : Nat
  an : Nat → ByteArray
  az : Nat → Int
  fa : Option Addr
  fl : Nat
  fc : Nat
  fs : Nat → FuncD

def UnitLies (w : World) (u : UnitD) : Prop := (u.name.size ≤ maxLen ∧ u.vl ≤ maxLen ∧ u.al ≤ maxLen ∧ u.fl ≤ maxLen) ∧ Strs w u.va u.vl u.vs ∧ ARow w u.aa u.al u.an u.az ∧ FRow w u.fa u.fl u.fs
theorem UnitLies_below {w w' : World} (hb : Below w.heap.size w w') {u : UnitD} (h : UnitLies w u) : UnitLies w' u := ⟨h.1, Strs_below hb h.2.1, ARow_below hb h.2.2.1, FRow_below hb h.2.2.2⟩

/-- all but the functions themselves -/
def frontFault (u : UnitD) : Int :=
  if identB u.name = true then
    if u.vl ≤ 8 ∧ u.al ≤ 3 ∧ u.fl ≤ 8 then
      if namesFault u.vs u.vl = 0 then first (fun i => arrayFault (u.an i) (u.az i)) u.al else namesFault u.vs u.vl
    else 1
  else 4

def many (u : UnitD) : Nat := sum (fun i => count 12 (u.fs i).bl (u.fs i).body) u.fl

/-- P6.3 -/
def unitFault (u : UnitD) : Int :=
  if frontFault u = 0 then
    if first (fun i => funcFault (u.fs i)) u.fl = 0 then
      if 300 < wrap64 (many u) then 1 else 0
    else first (fun i => funcFault (u.fs i)) u.fl
  else frontFault u
end Go.Proofs.YtgjemlhnlpglbaaDoor.Trees

namespace Go.Proofs.YtgjemlhnlpglbaaDoor.NSense
open Go.RowKit NPlace NPlain Go.Proofs.YtgjemlhnlpglbaaDoor.Ident Trees

def unitNames (U : Nat → UnitD) : Nat → ByteArray := fun i => (U i).name
def funcNames (u : UnitD) : Nat → ByteArray := fun i => (u.fs i).name

/-- a function of a unit, by its name -/
def funcOf (u : UnitD) (s : ByteArray) : Option FuncD :=
  if 0 ≤ placeFrom (funcNames u) s 0 u.fl then some (u.fs (placeFrom (funcNames u) s 0 u.fl).toNat) else none

/-- the function that is asked -/
def asked (len : Nat) (U : Nat → UnitD) (u : UnitD) (of s : ByteArray) : Option FuncD :=
  if (of.toList == []) = true then funcOf u s
  else if 0 ≤ placeFrom (unitNames U) of 0 len then
    match funcOf (U (placeFrom (unitNames U) of 0 len).toNat) s with
    | some g => if g.op = true then some g else none
    | none => none
  else none

def varThere (u : UnitD) (f : FuncD) (s : ByteArray) : Bool := hasB (both f.pl f.ps u.vs) s (f.pl + u.vl)
def arrayThere (u : UnitD) (s : ByteArray) : Bool := hasB u.an s u.al

/-- what an expression names by itself -/
def nameFault (len : Nat) (U : Nat → UnitD) (u : UnitD) (f : FuncD) (x : ENode) : Int :=
  if x.kind = 2 then (if varThere u f x.s = true then 0 else 5)
  else if x.kind = 3 then (if arrayThere u x.s = true then 0 else 5)
  else if x.kind = 4 then
    match asked len U u x.of x.s with
    | some g => if g.pl = x.len then 0 else 7
    | none => 5
  else 0

/-- with so many depths left -/
def exprSense (len : Nat) (U : Nat → UnitD) (u : UnitD) (f : FuncD) : Nat → ETree → Int
  | 0, _ => 0
  | d + 1, T => if nameFault len U u f (T []) = 0 then first (fun i => exprSense len U u f d (sub T i)) (T []).len else nameFault len U u f (T [])

/-- what a statement sets -/
def setFault (u : UnitD) (f : FuncD) (x : SNode) : Int :=
  if x.kind = 1 then (if varThere u f x.s = true then 0 else 5)
  else if x.kind = 2 then (if arrayThere u x.s = true then 0 else 5)
  else 0

def headSense (len : Nat) (U : Nat → UnitD) (u : UnitD) (f : FuncD) (x : SNode) : Int :=
  if setFault u f x = 0 then first (fun j => exprSense len U u f 12 (x.ex j)) x.el else setFault u f x

def stmtsSense (len : Nat) (U : Nat → UnitD) (u : UnitD) (f : FuncD) : Nat → Nat → (Nat → STree) → Int
  | 0, _, _ => 0
  | d + 1, n, L => first (fun i => if headSense len U u f (L i []) = 0 then if stmtsSense len U u f d (L i []).bl (inBody (L i)) = 0 then stmtsSense len U u f d (L i []).ll (inElse (L i)) else stmtsSense len U u f d (L i []).bl (inBody (L i)) else headSense len U u f (L i [])) n

def stmtSense (len : Nat) (U : Nat → UnitD) (u : UnitD) (f : FuncD) (d : Nat) (T : STree) : Int :=
  if headSense len U u f (T []) = 0 then if stmtsSense len U u f d (T []).bl (inBody T) = 0 then stmtsSense len U u f d (T []).ll (inElse T) else stmtsSense len U u f d (T []).bl (inBody T) else headSense len U u f (T [])

theorem stmtsSense_succ (len : Nat) (U : Nat → UnitD) (u : UnitD) (f : FuncD) (d n : Nat) (L : Nat → STree) : stmtsSense len U u f (d + 1) n L = first (fun i => stmtSense len U u f d (L i)) n := rfl

/-- P7.2, of a function -/
def funcSense (len : Nat) (U : Nat → UnitD) (u : UnitD) (f : FuncD) : Int :=
  if twiceB f.ps f.pl = true then 6 else stmtsSense len U u f 12 f.bl f.body

/-- P7.2, of a unit -/
def unitSense (len : Nat) (U : Nat → UnitD) (u : UnitD) : Int :=
  if twiceB (both u.vl u.vs u.an) (u.vl + u.al) = true ∨ twiceB (funcNames u) u.fl = true then 6
  else first (fun k => funcSense len U u (u.fs k)) u.fl

/-- the sum of the first n -/
def sizes (z : Nat → Int) : Nat → Int
  | 0 => 0
  | n + 1 => sizes z n + z n
/-- how many words a unit has -/
def wordsOf (u : UnitD) : Int := u.vl + sizes u.az u.al

def allWords (U : Nat → UnitD) : Nat → Int
  | 0 => 0
  | n + 1 => allWords U n + wordsOf (U n)

/-- P7.2 -/
def programFault (len : Nat) (U : Nat → UnitD) : Int :=
  if len ≤ 5 then
    if first (fun i => unitFault (U i)) len = 0 then
      if twiceB (unitNames U) len = true then 6
      else if 250 < allWords U len then 1
      else first (fun i => unitSense len U (U i)) len
    else first (fun i => unitFault (U i)) len
  else 1

/-- units lie there in a row -/
def URow (w : World) (ao : Option Addr) (len : Nat) (U : Nat → UnitD) : Prop :=
  ∀ i, i < len → (∃ bl off, ao = some ⟨bl, off, none⟩ ∧ w.cell? ⟨bl, off + i * 4, none⟩ = some (.string (U i).name) ∧ w.cell? ⟨bl, off + i * 4 + 1, none⟩ = some (.slice (U i).va (U i).vl (U i).vc) ∧
      w.cell? ⟨bl, off + i * 4 + 2, none⟩ = some (.slice (U i).aa (U i).al (U i).ac) ∧ w.cell? ⟨bl, off + i * 4 + 3, none⟩ = some (.slice (U i).fa (U i).fl (U i).fc)) ∧ UnitLies w (U i)

theorem URow_below {w w' : World} (hb : Below w.heap.size w w') {ao : Option Addr} {len : Nat} {U : Nat → UnitD} (h : URow w ao len U) : URow w' ao len U := fun i hi => by
  obtain ⟨⟨bl, off, e, t0, t1, t2, t3⟩, r⟩ := h i hi
  have h0 := World.block_lt_of_cell? w _ t0
  exact ⟨⟨bl, off, e, (hb.cell h0).trans t0, (hb.cell (p := ⟨bl, off + i * 4 + 1, none⟩) h0).trans t1, (hb.cell (p := ⟨bl, off + i * 4 + 2, none⟩) h0).trans t2, (hb.cell (p := ⟨bl, off + i * 4 + 3, none⟩) h0).trans t3⟩, UnitLies_below hb r⟩
end Go.Proofs.YtgjemlhnlpglbaaDoor.NSense
