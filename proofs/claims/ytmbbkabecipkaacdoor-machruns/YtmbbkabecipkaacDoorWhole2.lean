/-
  LISTS OF INSTRUCTIONS AND OF WORDS: what is gathered up to a place, and the first fault; plain, without a walk.
  Conditions: none.
  WHAT word.Is AND THE DOCUMENT'S IsWord GIVE, for every number: each call returns, and changes nothing.
  Conditions: none.
  PARTS AND IMAGES: what is refused of them (P3.1, P3.2), and how they lie in memory; plain, without a walk.
  Conditions: none.
  THE MACHINE OF P4, PLAIN: frames, a step, a run with so much fuel; no Go in sight.
  Conditions: none.
  MEMORY THAT IS OWNED, WITH A TAG A BLOCK: an append that tells whether its row is the same or new; what stays where one tag's blocks are written. No program.
  Conditions: none.
  HOW A RUN OF mach LIES IN MEMORY: frames, words, what was told, the data, the calls that were noted; plain, without a walk.
  Conditions: none.
  WHAT mach.last, take, takes, put, lookAs AND ITS CLOSURE GIVE.
  Conditions: each contract's own hypotheses (what it reads lies there).
  WHAT mach.take AND tell GIVE.
  Conditions: each contract's own hypotheses (what it reads lies there).
-/
import Derived.Test.YtmbbkabecipkaacDoorWhole1
import Derived.OwnWalk
import Derived.WalkSmall
import Derived.Laws.CopyOwn
import Derived.Deep.QuietTactic
import Derived.BigQuiet
namespace Go.Proofs.YtmbbkabecipkaacDoor.Lists
open Go.RowKit Tab Go.Proofs.YtmbbkabecipkaacDoor.Check

/-- the first that is not 0 among the first n -/
def first (f : Nat → Int) : Nat → Int
  | 0 => 0
  | n + 1 => if first f n = 0 then f n else first f n

/-- the words of the first n instructions -/
def words (o a b c : Nat → Int) : Nat → List Value
  | 0 => []
  | n + 1 => words o a b c n ++ [.int .i64 (o n), .int .i64 (a n), .int .i64 (b n), .int .i64 (c n)]

theorem first_succ {f : Nat → Int} {n : Nat} (h : first f n = 0) : first f (n + 1) = f n := by simp [first, h]

theorem first_stays {f : Nat → Int} {k n : Nat} (hk : k ≤ n) (h : first f k ≠ 0) : first f n = first f k := by
  induction n with
  | zero => obtain rfl : k = 0 := by omega
            rfl
  | succ n ih =>
    by_cases hkn : k = n + 1
    · rw [hkn]
    · have := ih (by omega)
      simp [first, this, h]

theorem first_stops {f : Nat → Int} {k n : Nat} (hk : k < n) (h : first f k = 0) (hf : f k ≠ 0) : first f n = f k := by
  have h1 := first_succ h
  rw [first_stays (k := k + 1) (by omega) (by rw [h1]; exact hf), h1]

theorem Lies_below {w w' : World} (h : Lies w) (hb : Below w.heap.size w w') : Lies w' := by
  intro k hk
  obtain ⟨t0, t1, t2, t3⟩ := h k hk
  have h0 := World.block_lt_of_cell? w _ t0
  exact ⟨(hb.cell h0).trans t0, (hb.cell (p := ⟨0, k * 4 + 1, none⟩) h0).trans t1, (hb.cell (p := ⟨0, k * 4 + 2, none⟩) h0).trans t2, (hb.cell (p := ⟨0, k * 4 + 3, none⟩) h0).trans t3⟩

/-- a new block of four cells, read in a later world -/
theorem box4 {w w' : World} {v0 v1 v2 v3 : Value} {t : TypeId} (hb : Below (w.alloc (.cells #[v0, v1, v2, v3] t)).heap.size (w.alloc (.cells #[v0, v1, v2, v3] t)) w') :
    w'.cell? ⟨w.heap.size, 0, none⟩ = some v0 ∧ w'.cell? ⟨w.heap.size, 1, none⟩ = some v1 ∧ w'.cell? ⟨w.heap.size, 2, none⟩ = some v2 ∧ w'.cell? ⟨w.heap.size, 3, none⟩ = some v3 := by
  have h : ∀ i : Nat, (⟨w.heap.size, i, none⟩ : Addr).block < (w.alloc (.cells #[v0, v1, v2, v3] t)).heap.size := fun i => by simp
  exact ⟨(hb.cell (h 0)).trans (by simp), (hb.cell (h 1)).trans (by simp), (hb.cell (h 2)).trans (by simp), (hb.cell (h 3)).trans (by simp)⟩

/-- what the call owns stays its own where nothing below is turned -/
theorem owns_below {w w' : World} {base : Nat} {e : TypeId} {size n : Nat} {v : Value} {xs : List Value} (h : w.ownsRow base e size v n xs) (hb : Below w.heap.size w w') : w'.ownsRow base e size v n xs :=
  h.kept (row := none) ⟨hb.os, hb.tape, hb.output, hb.size, fun k hk _ => hb.block k hk⟩ (by cases hv : v.ownBlock <;> simp)

/-- four cells lie at an address -/
theorem four_news {w : World} {v0 v1 v2 v3 : Value} {t : TypeId} : ∀ (j : Nat) (u : Value), [v0, v1, v2, v3][j]? = some u → (w.alloc (.cells #[v0, v1, v2, v3] t)).cell? ((⟨w.heap.size, 0, none⟩ : Addr).add j) = some u := by
  intro j u hj
  match j, hj with
  | 0, hj => simp at hj; subst hj; simp [Addr.add]
  | 1, hj => simp at hj; subst hj; simp [Addr.add]
  | 2, hj => simp at hj; subst hj; simp [Addr.add]
  | 3, hj => simp at hj; subst hj; simp [Addr.add]

theorem four_one {x0 x1 x2 x3 : Int} : ∀ u ∈ [Value.int .i64 x0, .int .i64 x1, .int .i64 x2, .int .i64 x3], u.oneCell' = true := by
  intro u hu
  simp at hu
  rcases hu with rfl | rfl | rfl | rfl <;> rfl

theorem info3 : (Tryd.prog.info? 3).map (fun i => (i.zero, i.size, i.bytes)) = some (some (.int .i64 0), 1, 8) := by kernel_rfl

/-- a list of instructions that was handed in lies there: its first len -/
def Instrs (w : World) (ao : Option Addr) (len : Nat) (o a b c : Nat → Int) : Prop :=
  ∀ k, k < len → ∃ bl off, ao = some ⟨bl, off, none⟩ ∧ w.cell? ⟨bl, off + k * 4, none⟩ = some (.int .i64 (o k)) ∧ w.cell? ⟨bl, off + k * 4 + 1, none⟩ = some (.int .i64 (a k)) ∧
    w.cell? ⟨bl, off + k * 4 + 2, none⟩ = some (.int .i64 (b k)) ∧ w.cell? ⟨bl, off + k * 4 + 3, none⟩ = some (.int .i64 (c k))

end Go.Proofs.YtmbbkabecipkaacDoor.Lists

namespace Go.Proofs.YtmbbkabecipkaacDoor.Read
open Go.RowKit Tab Go.Proofs.YtmbbkabecipkaacDoor.Check Lists

theorem is (n : Int) (w : World) :
    Calls Tryd.prog 21 #[.int .i64 n] w fun e w' => e = .returned (.bool (decide (0 ≤ n ∧ n ≤ 65535))) ∧ w' = w := by
  by_cases c0 : 0 ≤ n <;> by_cases c1 : n ≤ 65535
  all_goals
    go_enter Tryd.func21, Tryd.ntmps21
    go_wp2
    go_ret
    exact ⟨by simp [c0, c1], rfl⟩

theorem isWord (n : Int) (w : World) :
    Calls Tryd.prog 28 #[.int .i64 n] w fun e w' => e = .returned (.bool (decide (0 ≤ n ∧ n ≤ 65535))) ∧ w' = w := by
  go_enter Tryd.func28, Tryd.ntmps28
  go_wp2_with (go_at_call 27; refine (isIn _ _ _ _).mono ?_; rintro e w' ⟨rfl, rfl⟩)
  go_ret
  exact ⟨by simp, rfl⟩

/-- a list of numbers that was handed in lies there: its first len -/
def Ints (w : World) (ao : Option Addr) (len : Nat) (z : Nat → Int) : Prop :=
  ∀ k, k < len → ∃ bl off, ao = some ⟨bl, off, none⟩ ∧ ∀ j, j < len → w.cell? ⟨bl, off + j, none⟩ = some (.int .i64 (z j))

theorem Ints_below {w w' : World} {ao : Option Addr} {len : Nat} {z : Nat → Int} (h : Ints w ao len z) (hb : Below w.heap.size w w') : Ints w' ao len z := by
  intro k hk
  obtain ⟨bl, off, e, t⟩ := h k hk
  exact ⟨bl, off, e, fun j hj => (hb.cell (World.block_lt_of_cell? w _ (t j hj))).trans (t j hj)⟩

end Go.Proofs.YtmbbkabecipkaacDoor.Read

namespace Go.Proofs.YtmbbkabecipkaacDoor.Img
open Go.RowKit Tab Go.Proofs.YtmbbkabecipkaacDoor.Check Lists Go.Proofs.YtmbbkabecipkaacDoor.Read

/-- a part: where its code and its entries lie, what they are, and where its words begin and end -/
structure PartD where
  ca : Option Addr
  cl : Nat
  cc : Nat
  o : Nat → Int
  a : Nat → Int
  b : Nat → Int
  c : Nat → Int
  ea : Option Addr
  el : Nat
  ec : Nat
  ats : Nat → Int
  prs : Nat → Int
  lo : Int
  hi : Int

/-- what is refused of its code -/
def codeFault (p : PartD) : Int := first (fun k => fault (p.o k) (p.a k) (p.b k) (p.c k)) p.cl
/-- what is refused of an entry of code with n places -/
def entryFault (n : Nat) (t r : Int) : Int := if (0 ≤ t ∧ t < n) ∧ (0 ≤ r ∧ r ≤ 4) then 0 else 2
def entriesFault (p : PartD) : Int := first (fun k => entryFault p.cl (p.ats k) (p.prs k)) p.el
/-- P3.1, of a part whose words have to begin at a place -/
def partFault (p : PartD) (start : Int) : Int :=
  if p.cl ≤ 1200 ∧ p.el ≤ 8 then
    if codeFault p = 0 then
      if entriesFault p = 0 then
        if p.lo = start ∧ p.lo ≤ p.hi ∧ p.hi ≤ 250 then 0 else 8
      else entriesFault p
    else codeFault p
  else 1
/-- where the words of the part k have to begin: the To of the part ahead -/
def begins (P : Nat → PartD) : Nat → Int
  | 0 => 0
  | k + 1 => (P k).hi
/-- P3.1 -/
def imageFault (P : Nat → PartD) (len : Nat) : Int := if len ≤ 5 then first (fun k => partFault (P k) (begins P k)) len else 1

/-- entries lie there -/
def Entries (w : World) (ao : Option Addr) (len : Nat) (t r : Nat → Int) : Prop :=
  ∀ k, k < len → ∃ bl off, ao = some ⟨bl, off, none⟩ ∧ w.cell? ⟨bl, off + k * 2, none⟩ = some (.int .i64 (t k)) ∧ w.cell? ⟨bl, off + k * 2 + 1, none⟩ = some (.int .i64 (r k))

/-- what a part names lies there -/
def PartLies (w : World) (p : PartD) : Prop := Instrs w p.ca p.cl p.o p.a p.b p.c ∧ Entries w p.ea p.el p.ats p.prs

/-- the parts of an image lie there -/
def Parts (w : World) (ao : Option Addr) (len : Nat) (P : Nat → PartD) : Prop :=
  ∀ k, k < len → (∃ bl off, ao = some ⟨bl, off, none⟩ ∧ w.cell? ⟨bl, off + k * 4, none⟩ = some (.slice (P k).ca (P k).cl (P k).cc) ∧ w.cell? ⟨bl, off + k * 4 + 1, none⟩ = some (.slice (P k).ea (P k).el (P k).ec) ∧
    w.cell? ⟨bl, off + k * 4 + 2, none⟩ = some (.int .i64 (P k).lo) ∧ w.cell? ⟨bl, off + k * 4 + 3, none⟩ = some (.int .i64 (P k).hi)) ∧ PartLies w (P k)

theorem Instrs_below {w w' : World} {ao : Option Addr} {len : Nat} {o a b c : Nat → Int} (h : Instrs w ao len o a b c) (hb : Below w.heap.size w w') : Instrs w' ao len o a b c := by
  intro k hk
  obtain ⟨bl, off, e, t0, t1, t2, t3⟩ := h k hk
  have h0 := World.block_lt_of_cell? w _ t0
  exact ⟨bl, off, e, (hb.cell h0).trans t0, (hb.cell (p := ⟨bl, off + k * 4 + 1, none⟩) h0).trans t1, (hb.cell (p := ⟨bl, off + k * 4 + 2, none⟩) h0).trans t2, (hb.cell (p := ⟨bl, off + k * 4 + 3, none⟩) h0).trans t3⟩

theorem Entries_below {w w' : World} {ao : Option Addr} {len : Nat} {t r : Nat → Int} (h : Entries w ao len t r) (hb : Below w.heap.size w w') : Entries w' ao len t r := by
  intro k hk
  obtain ⟨bl, off, e, t0, t1⟩ := h k hk
  have h0 := World.block_lt_of_cell? w _ t0
  exact ⟨bl, off, e, (hb.cell h0).trans t0, (hb.cell (p := ⟨bl, off + k * 2 + 1, none⟩) h0).trans t1⟩

theorem PartLies_below {w w' : World} {p : PartD} (h : PartLies w p) (hb : Below w.heap.size w w') : PartLies w' p := ⟨Instrs_below h.1 hb, Entries_below h.2 hb⟩

theorem Parts_below {w w' : World} {ao : Option Addr} {len : Nat} {P : Nat → PartD} (h : Parts w ao len P) (hb : Below w.heap.size w w') : Parts w' ao len P := by
  intro k hk
  obtain ⟨⟨bl, off, e, t0, t1, t2, t3⟩, hp⟩ := h k hk
  have h0 := World.block_lt_of_cell? w _ t0
  exact ⟨⟨bl, off, e, (hb.cell h0).trans t0, (hb.cell (p := ⟨bl, off + k * 4 + 1, none⟩) h0).trans t1, (hb.cell (p := ⟨bl, off + k * 4 + 2, none⟩) h0).trans t2, (hb.cell (p := ⟨bl, off + k * 4 + 3, none⟩) h0).trans t3⟩, PartLies_below hp hb⟩

theorem box1 {w w' : World} {v0 : Value} {t : TypeId} (hb : Below (w.alloc (.cells #[v0] t)).heap.size (w.alloc (.cells #[v0] t)) w') : w'.cell? ⟨w.heap.size, 0, none⟩ = some v0 :=
  (hb.cell (show (⟨w.heap.size, 0, none⟩ : Addr).block < _ by simp)).trans (by simp)

/-- the place of each part, once for all -/
theorem Parts_at {w : World} {ao : Option Addr} {len : Nat} {P : Nat → PartD} (h : Parts w ao len P) {k : Nat} (hk : k < len) : ∃ bl off, ao = some ⟨bl, off, none⟩ ∧ bl < w.heap.size ∧ w.cell? ⟨bl, off + k * 4, none⟩ = some (.slice (P k).ca (P k).cl (P k).cc) ∧
    w.cell? ⟨bl, off + k * 4 + 1, none⟩ = some (.slice (P k).ea (P k).el (P k).ec) ∧ w.cell? ⟨bl, off + k * 4 + 2, none⟩ = some (.int .i64 (P k).lo) ∧ w.cell? ⟨bl, off + k * 4 + 3, none⟩ = some (.int .i64 (P k).hi) := by
  obtain ⟨⟨bl, off, e, t0, t⟩, _⟩ := h k hk
  exact ⟨bl, off, e, World.block_lt_of_cell? w _ t0, t0, t⟩

/-- P3.2: what is refused of the words of an image -/
def wordFault (n : Int) : Int := if 0 ≤ n ∧ n ≤ 65535 then 0 else 2
def dataFault (P : Nat → PartD) (len : Nat) (z : Nat → Int) (dlen : Nat) : Int :=
  if imageFault P len = 0 then
    if (dlen : Int) = begins P len then first (fun k => wordFault (z k)) dlen else 4
  else imageFault P len
/-- P3.3 -/
def ownFault (P : Nat → PartD) (len : Nat) (z : Nat → Int) (dlen : Nat) (p t : Int) : Int :=
  if dataFault P len z dlen = 0 then
    if 0 ≤ p ∧ p < len then
      if (P p.toNat).lo ≤ t ∧ t < (P p.toNat).hi then 0 else 9
    else 5
  else dataFault P len z dlen

theorem first_zero {f : Nat → Int} {n : Nat} (h : first f n = 0) : ∀ k, k < n → f k = 0 := by
  intro k hk
  have h1 : first f (k + 1) = 0 := by
    by_cases h2 : first f (k + 1) = 0
    · exact h2
    · rw [← first_stays (n := n) (by omega) h2]; exact h
  have h0 : first f k = 0 := by
    by_cases h2 : first f k = 0
    · exact h2
    · rw [← first_stays (n := k + 1) (by omega) h2]; exact h1
  rw [← first_succ h0]; exact h1

theorem partFault_zero {p : PartD} {s : Int} (h : partFault p s = 0) : p.lo = s ∧ p.lo ≤ p.hi ∧ p.hi ≤ 250 := by
  unfold partFault at h
  split at h
  · split at h
    · split at h
      · split at h
        · assumption
        · cases h
      · contradiction
    · contradiction
  · cases h

/-- of an image that may be: the words of a part lie from 0 to the To of the last one -/
theorem begins_mono {P : Nat → PartD} {len : Nat} (h : first (fun k => partFault (P k) (begins P k)) len = 0) : ∀ k, k ≤ len → 0 ≤ begins P k ∧ begins P k ≤ begins P len ∧ begins P len ≤ 250 := by
  have hz := first_zero h
  have up : ∀ k, k ≤ len → 0 ≤ begins P k ∧ begins P k ≤ 250 := by
    intro k
    induction k with
    | zero => intro _; simp [begins]
    | succ k ih =>
      intro hk
      have h1 := ih (by omega)
      have h2 := partFault_zero (hz k (by omega))
      simp only [begins]
      omega
  have down : ∀ d, d ≤ len → begins P (len - d) ≤ begins P len := by
    intro d
    induction d with
    | zero => intro _; simp
    | succ d ih =>
      intro hd
      have h1 := ih (by omega)
      have h2 := partFault_zero (hz (len - (d + 1)) (by omega))
      have h3 : begins P (len - d) = (P (len - (d + 1))).hi := by
        rw [show len - d = (len - (d + 1)) + 1 by omega]
        rfl
      omega
  intro k hk
  refine ⟨(up k hk).1, ?_, (up len (Nat.le_refl _)).2⟩
  have := down (len - k) (by omega)
  rwa [show len - (len - k) = k by omega] at this

theorem dataFault_zero {P : Nat → PartD} {len : Nat} {z : Nat → Int} {dlen : Nat} (h : dataFault P len z dlen = 0) : imageFault P len = 0 ∧ (dlen : Int) = begins P len ∧ first (fun k => wordFault (z k)) dlen = 0 := by
  unfold dataFault at h
  split at h
  · split at h
    · exact ⟨by assumption, by assumption, h⟩
    · cases h
  · contradiction

theorem imageFault_zero {P : Nat → PartD} {len : Nat} (h : imageFault P len = 0) : len ≤ 5 ∧ first (fun k => partFault (P k) (begins P k)) len = 0 := by
  unfold imageFault at h
  split at h
  · exact ⟨by assumption, h⟩
  · cases h

/-- the words of a part are words of the data -/
theorem inside {P : Nat → PartD} {len : Nat} {z : Nat → Int} {dlen : Nat} (h : dataFault P len z dlen = 0) {k : Nat} (hk : k < len) : 0 ≤ (P k).lo ∧ (P k).hi ≤ dlen ∧ dlen ≤ 250 := by
  obtain ⟨h1, h2, _⟩ := dataFault_zero h
  have h3 := (imageFault_zero h1).2
  have h4 := begins_mono h3 k (by omega)
  have h5 : (P k).hi ≤ begins P len := (begins_mono h3 (k + 1) (by omega)).2.1
  have h6 := partFault_zero (first_zero h3 k hk)
  omega
end Go.Proofs.YtmbbkabecipkaacDoor.Img

namespace Go.Proofs.YtmbbkabecipkaacDoor.Mach
open Go.RowKit Tab Img

/-- a frame: its part, its place, its locals, its words (the last one last), and which call that was noted it came by -/
structure Fr where
  part : Nat
  pc : Nat
  locals : List Int
  words : List Int
  noted : Option Nat

/-- a call that was noted -/
structure Rec where
  by_ : Nat
  part : Nat
  entry : Nat
  args : List Int
  deep : Nat
  done : Bool
  value : Int

/-- a run: its frames (the last one FIRST), its data, what was told, the calls that were noted -/
structure St where
  rooms : List Fr
  data : List Int
  told : List Int
  calls : List Rec

/-- how many words an instruction takes -/
def needs (op b c : Int) : Nat :=
  if op = 2 ∨ op = 3 ∨ op = 5 ∨ op = 6 ∨ op = 10 ∨ op = 13 ∨ op = 14 then 1
  else if op = 7 ∨ op = 8 then 2
  else if op = 11 then b.toNat
  else if op = 12 then c.toNat
  else 0

/-- locals of a frame that was called with words -/
def pad (l : List Int) : List Int := (l ++ List.replicate 8 0).take 8

/-- the run ends -/
def ends (e v : Int) (s : St) : (Int × Int × St) ⊕ St := .inl (e, v, s)

/-- words are put behind those of a frame -/
def puts (s : St) (f : Fr) (rest : List Fr) (back : List Int) : (Int × Int × St) ⊕ St :=
  if f.words.length + back.length ≤ 40 then .inr { s with rooms := { f with words := f.words ++ back } :: rest } else ends 4 0 s

/-- a frame more -/
def enter (s : St) (f : Fr) (rest : List Fr) (g : Fr) : (Int × Int × St) ⊕ St :=
  if rest.length + 1 < 20 then .inr { s with rooms := g :: f :: rest } else ends 5 0 s

/-- P4.3 to P4.5: what an instruction does; f: its frame, its place one more and its last words l taken -/
def act (wdo : Int → Int → Int → Int) (P : Nat → PartD) (len : Nat) (s : St) (f : Fr) (rest : List Fr) (op a b c : Int) (l : List Int) : (Int × Int × St) ⊕ St :=
  if op = 1 then puts s f rest [a]
  else if op = 2 then puts s f rest []
  else if op = 3 then puts s f rest [l.getD 0 0, l.getD 0 0]
  else if op = 4 then puts s f rest [f.locals.getD a.toNat 0]
  else if op = 5 then puts s { f with locals := f.locals.set a.toNat (l.getD 0 0) } rest []
  else if op = 6 then if (P f.part).lo ≤ l.getD 0 0 ∧ l.getD 0 0 < (P f.part).hi then puts s f rest [s.data.getD (l.getD 0 0).toNat 0] else ends 4 0 s
  else if op = 7 then if (P f.part).lo ≤ l.getD 0 0 ∧ l.getD 0 0 < (P f.part).hi then puts { s with data := s.data.set (l.getD 0 0).toNat (l.getD 1 0) } f rest [] else ends 4 0 s
  else if op = 8 then puts s f rest [wdo a (l.getD 0 0) (l.getD 1 0)]
  else if op = 9 then puts s { f with pc := a.toNat } rest []
  else if op = 10 then puts s (if l.getD 0 0 = 0 then { f with pc := a.toNat } else f) rest []
  else if op = 11 then enter s f rest { part := f.part, pc := a.toNat, locals := pad l, words := [], noted := none }
  else if op = 12 then
    if a < len ∧ b < (P a.toNat).el ∧ (P a.toNat).prs b.toNat = c then
      if s.calls.length < 100 then
        enter { s with calls := s.calls ++ [{ by_ := f.part, part := a.toNat, entry := b.toNat, args := l, deep := rest.length + 1, done := false, value := 0 }] } f rest
          { part := a.toNat, pc := ((P a.toNat).ats b.toNat).toNat, locals := pad l, words := [], noted := some s.calls.length }
      else enter s f rest { part := a.toNat, pc := ((P a.toNat).ats b.toNat).toNat, locals := pad l, words := [], noted := none }
    else ends 4 0 s
  else if op = 13 then
    let s' : St := match f.noted with
      | none => s
      | some k => { s with calls := s.calls.modify k fun r => { r with done := true, value := l.getD 0 0 } }
    match rest with
    | [] => ends 1 (l.getD 0 0) s'
    | g :: rest' => puts s' g rest' [l.getD 0 0]
  else if op = 14 then if s.told.length < 500 then puts { s with told := s.told ++ [l.getD 0 0] } f rest [] else ends 6 0 s
  else ends 2 0 s

/-- P4.2: a step -/
def step (wdo : Int → Int → Int → Int) (P : Nat → PartD) (len : Nat) (s : St) : (Int × Int × St) ⊕ St :=
  match s.rooms with
  | [] => ends 1 0 s
  | f :: rest =>
    let p := P f.part
    if f.pc < p.cl then
      let n := needs (p.o f.pc) (p.b f.pc) (p.c f.pc)
      if n ≤ f.words.length then
        act wdo P len s { f with pc := f.pc + 1, words := f.words.take (f.words.length - n) } rest (p.o f.pc) (p.a f.pc) (p.b f.pc) (p.c f.pc) (f.words.drop (f.words.length - n))
      else ends 4 0 s
    else ends 4 0 s

/-- P4.1: a run with so much fuel: how it ends, its value, and what it left -/
def run (wdo : Int → Int → Int → Int) (P : Nat → PartD) (len : Nat) : Nat → St → Int × Int × St
  | 0, s => (3, 0, s)
  | n + 1, s =>
    match step wdo P len s with
    | .inl r => r
    | .inr s' => run wdo P len n s'

theorem run_next {wdo : Int → Int → Int → Int} {P : Nat → PartD} {len n : Nat} {s s' : St} (h : step wdo P len s = .inr s') : run wdo P len (n + 1) s = run wdo P len n s' := by rw [run, h]
theorem run_ends {wdo : Int → Int → Int → Int} {P : Nat → PartD} {len n : Nat} {s : St} {r : Int × Int × St} (h : step wdo P len s = .inl r) : run wdo P len (n + 1) s = r := by rw [run, h]

/-- a part's code out of a list -/
def code (l : List (Int × Int × Int × Int)) (p : PartD) : Prop :=
  p.cl = l.length ∧ ∀ k, k < l.length → p.o k = (l.getD k (0, 0, 0, 0)).1 ∧ p.a k = (l.getD k (0, 0, 0, 0)).2.1 ∧ p.b k = (l.getD k (0, 0, 0, 0)).2.2.1 ∧ p.c k = (l.getD k (0, 0, 0, 0)).2.2.2

/-- the first frame of the second part, at its first place -/
def start (data : List Int) : St := ⟨[⟨1, 0, List.replicate 8 0, [], none⟩], data, [], []⟩

/-- a step at a place of known code, whatever is behind the frame -/
theorem step_at {wdo : Int → Int → Int → Int} {P : Nat → PartD} {len : Nat} {l : List (Int × Int × Int × Int)} (h : code l (P 1)) {k : Nat} {lo ws : List Int} {nt : Option Nat} {rest : List Fr} {d t : List Int} {cs : List Rec} {op a b c : Int}
    (hk : l[k]? = some (op, a, b, c)) (hn : needs op b c ≤ ws.length) :
    step wdo P len ⟨⟨1, k, lo, ws, nt⟩ :: rest, d, t, cs⟩ = act wdo P len ⟨⟨1, k, lo, ws, nt⟩ :: rest, d, t, cs⟩ ⟨1, k + 1, lo, ws.take (ws.length - needs op b c), nt⟩ rest op a b c (ws.drop (ws.length - needs op b c)) := by
  have hl : k < l.length := (List.getElem?_eq_some_iff.1 hk).1
  obtain ⟨e0, e1, e2, e3⟩ := h.2 k hl
  rw [List.getD_eq_getElem?_getD, hk] at e0 e1 e2 e3
  simp only [Option.getD_some] at e0 e1 e2 e3
  simp only [step, h.1, e0, e1, e2, e3, if_pos hl, if_pos hn]

theorem does (wdo : Int → Int → Int → Int) (P : Nat → PartD) (len : Nat) (x y k : Int) (h : code [(1, x, 0, 0), (1, y, 0, 0), (8, k, 0, 0), (3, 0, 0, 0), (14, 0, 0, 0), (13, 0, 0, 0)] (P 1)) (d : List Int) :
    ∃ s, run wdo P len 100 (start d) = (1, wdo k x y, s) ∧ s.told = [wdo k x y] := by
  have s0 : step wdo P len (start d) = .inr ⟨[⟨1, 1, List.replicate 8 0, [x], none⟩], d, [], []⟩ := (step_at h (k := 0) rfl (by simp [needs])).trans (by simp [act, needs, puts])
  have s1 : step wdo P len ⟨[⟨1, 1, List.replicate 8 0, [x], none⟩], d, [], []⟩ = .inr ⟨[⟨1, 2, List.replicate 8 0, [x, y], none⟩], d, [], []⟩ := (step_at h (k := 1) rfl (by simp [needs])).trans (by simp [act, needs, puts])
  have s2 : step wdo P len ⟨[⟨1, 2, List.replicate 8 0, [x, y], none⟩], d, [], []⟩ = .inr ⟨[⟨1, 3, List.replicate 8 0, [wdo k x y], none⟩], d, [], []⟩ := (step_at h (k := 2) rfl (by simp [needs])).trans (by simp [act, needs, puts])
  have s3 : step wdo P len ⟨[⟨1, 3, List.replicate 8 0, [wdo k x y], none⟩], d, [], []⟩ = .inr ⟨[⟨1, 4, List.replicate 8 0, [wdo k x y, wdo k x y], none⟩], d, [], []⟩ := (step_at h (k := 3) rfl (by simp [needs])).trans (by simp [act, needs, puts])
  have s4 : step wdo P len ⟨[⟨1, 4, List.replicate 8 0, [wdo k x y, wdo k x y], none⟩], d, [], []⟩ = .inr ⟨[⟨1, 5, List.replicate 8 0, [wdo k x y], none⟩], d, [wdo k x y], []⟩ := (step_at h (k := 4) rfl (by simp [needs])).trans (by simp [act, needs, puts])
  have s5 : step wdo P len ⟨[⟨1, 5, List.replicate 8 0, [wdo k x y], none⟩], d, [wdo k x y], []⟩ = .inl (1, wdo k x y, ⟨[⟨1, 5, List.replicate 8 0, [wdo k x y], none⟩], d, [wdo k x y], []⟩) := (step_at h (k := 5) rfl (by simp [needs])).trans (by simp [act, needs, ends])
  exact ⟨_, (run_next s0).trans ((run_next s1).trans ((run_next s2).trans ((run_next s3).trans ((run_next s4).trans (run_ends s5))))), rfl⟩

/-- the code that goes round k times -/
def looping (k : Int) : List (Int × Int × Int × Int) := [(1, k, 0, 0), (5, 0, 0, 0), (4, 0, 0, 0), (10, 9, 0, 0), (4, 0, 0, 0), (1, 1, 0, 0), (8, 2, 0, 0), (5, 0, 0, 0), (9, 2, 0, 0), (1, 7, 0, 0), (13, 0, 0, 0)]

/-- a run of known steps -/
def seven (k : Int) : List Int := k :: List.replicate 7 0

theorem head_steps (wdo : Int → Int → Int → Int) (P : Nat → PartD) (len : Nat) (k : Int) (h : code (looping k) (P 1)) (d : List Int) :
    step wdo P len (start d) = .inr ⟨[⟨1, 1, seven 0, [k], none⟩], d, [], []⟩ ∧
    step wdo P len ⟨[⟨1, 1, seven 0, [k], none⟩], d, [], []⟩ = .inr ⟨[⟨1, 2, seven k, [], none⟩], d, [], []⟩ :=
  ⟨(step_at h (k := 0) rfl (by simp [needs])).trans (by simp [act, needs, puts]; rfl), (step_at h (k := 1) rfl (by simp [needs])).trans (by simp [act, needs, puts, seven])⟩

/-- once round: seven steps, and one less -/
theorem round_steps (wdo : Int → Int → Int → Int) (P : Nat → PartD) (len : Nat) (k m : Int) (hm : m ≠ 0) (h : code (looping k) (P 1)) (d : List Int) :
    step wdo P len ⟨[⟨1, 2, seven m, [], none⟩], d, [], []⟩ = .inr ⟨[⟨1, 3, seven m, [m], none⟩], d, [], []⟩ ∧
    step wdo P len ⟨[⟨1, 3, seven m, [m], none⟩], d, [], []⟩ = .inr ⟨[⟨1, 4, seven m, [], none⟩], d, [], []⟩ ∧
    step wdo P len ⟨[⟨1, 4, seven m, [], none⟩], d, [], []⟩ = .inr ⟨[⟨1, 5, seven m, [m], none⟩], d, [], []⟩ ∧
    step wdo P len ⟨[⟨1, 5, seven m, [m], none⟩], d, [], []⟩ = .inr ⟨[⟨1, 6, seven m, [m, 1], none⟩], d, [], []⟩ ∧
    step wdo P len ⟨[⟨1, 6, seven m, [m, 1], none⟩], d, [], []⟩ = .inr ⟨[⟨1, 7, seven m, [wdo 2 m 1], none⟩], d, [], []⟩ ∧
    step wdo P len ⟨[⟨1, 7, seven m, [wdo 2 m 1], none⟩], d, [], []⟩ = .inr ⟨[⟨1, 8, seven (wdo 2 m 1), [], none⟩], d, [], []⟩ ∧
    step wdo P len ⟨[⟨1, 8, seven (wdo 2 m 1), [], none⟩], d, [], []⟩ = .inr ⟨[⟨1, 2, seven (wdo 2 m 1), [], none⟩], d, [], []⟩ :=
  ⟨(step_at h (k := 2) rfl (by simp [needs])).trans (by simp [act, needs, puts, seven]), (step_at h (k := 3) rfl (by simp [needs])).trans (by simp [act, needs, puts, hm]),
   (step_at h (k := 4) rfl (by simp [needs])).trans (by simp [act, needs, puts, seven]), (step_at h (k := 5) rfl (by simp [needs])).trans (by simp [act, needs, puts]),
   (step_at h (k := 6) rfl (by simp [needs])).trans (by simp [act, needs, puts]), (step_at h (k := 7) rfl (by simp [needs])).trans (by simp [act, needs, puts, seven]),
   (step_at h (k := 8) rfl (by simp [needs])).trans (by simp [act, needs, puts])⟩

theorem last_steps (wdo : Int → Int → Int → Int) (P : Nat → PartD) (len : Nat) (k : Int) (h : code (looping k) (P 1)) (d : List Int) :
    step wdo P len ⟨[⟨1, 2, seven 0, [], none⟩], d, [], []⟩ = .inr ⟨[⟨1, 3, seven 0, [0], none⟩], d, [], []⟩ ∧
    step wdo P len ⟨[⟨1, 3, seven 0, [0], none⟩], d, [], []⟩ = .inr ⟨[⟨1, 9, seven 0, [], none⟩], d, [], []⟩ ∧
    step wdo P len ⟨[⟨1, 9, seven 0, [], none⟩], d, [], []⟩ = .inr ⟨[⟨1, 10, seven 0, [7], none⟩], d, [], []⟩ ∧
    step wdo P len ⟨[⟨1, 10, seven 0, [7], none⟩], d, [], []⟩ = .inl (1, 7, ⟨[⟨1, 10, seven 0, [7], none⟩], d, [], []⟩) :=
  ⟨(step_at h (k := 2) rfl (by simp [needs])).trans (by simp [act, needs, puts, seven]), (step_at h (k := 3) rfl (by simp [needs])).trans (by simp [act, needs, puts]),
   (step_at h (k := 9) rfl (by simp [needs])).trans (by simp [act, needs, puts]), (step_at h (k := 10) rfl (by simp [needs])).trans (by simp [act, needs, ends])⟩

/-- fuel that is too little: the run is spent, whatever it did -/
theorem run_spent {wdo : Int → Int → Int → Int} {P : Nat → PartD} {len : Nat} (f : Nat → St) (n : Nat) (hs : ∀ i, i < n → step wdo P len (f i) = .inr (f (i + 1))) : ∀ m i, m + i ≤ n → run wdo P len m (f i) = (3, 0, f (i + m)) := by
  intro m
  induction m with
  | zero => intro i _; rfl
  | succ m ih =>
    intro i hi
    rw [run_next (hs i (by omega)), ih (i + 1) (by omega), show i + 1 + m = i + (m + 1) by omega]

theorem run_all {wdo : Int → Int → Int → Int} {P : Nat → PartD} {len : Nat} (f : Nat → St) (n : Nat) (hs : ∀ i, i < n → step wdo P len (f i) = .inr (f (i + 1))) {r : Int × Int × St} (he : step wdo P len (f n) = .inl r) : ∀ m i, i ≤ n → n - i < m → run wdo P len m (f i) = r := by
  intro m
  induction m with
  | zero => intro i _ h; omega
  | succ m ih =>
    intro i hi hm
    by_cases e : i = n
    · subst e
      exact run_ends he
    · rw [run_next (hs i (by omega))]
      exact ih (i + 1) (by omega) (by omega)

/-- where the looping code stands behind i steps of a round that begins with m -/
def inRound (wdo : Int → Int → Int → Int) (d : List Int) (m : Int) (i : Nat) : St :=
  if i = 0 then ⟨[⟨1, 2, seven m, [], none⟩], d, [], []⟩
  else if i = 1 then ⟨[⟨1, 3, seven m, [m], none⟩], d, [], []⟩
  else if i = 2 then ⟨[⟨1, 4, seven m, [], none⟩], d, [], []⟩
  else if i = 3 then ⟨[⟨1, 5, seven m, [m], none⟩], d, [], []⟩
  else if i = 4 then ⟨[⟨1, 6, seven m, [m, 1], none⟩], d, [], []⟩
  else if i = 5 then ⟨[⟨1, 7, seven m, [wdo 2 m 1], none⟩], d, [], []⟩
  else ⟨[⟨1, 8, seven (wdo 2 m 1), [], none⟩], d, [], []⟩

def atEnd (d : List Int) (i : Nat) : St :=
  if i = 0 then ⟨[⟨1, 2, seven 0, [], none⟩], d, [], []⟩
  else if i = 1 then ⟨[⟨1, 3, seven 0, [0], none⟩], d, [], []⟩
  else if i = 2 then ⟨[⟨1, 9, seven 0, [], none⟩], d, [], []⟩
  else ⟨[⟨1, 10, seven 0, [7], none⟩], d, [], []⟩

/-- .. behind i steps of the whole -/
def looped (wdo : Int → Int → Int → Int) (d : List Int) (k : Nat) (i : Nat) : St :=
  if i = 0 then start d
  else if i = 1 then ⟨[⟨1, 1, seven 0, [(k : Int)], none⟩], d, [], []⟩
  else if i < 2 + 7 * k then inRound wdo d ((k - (i - 2) / 7 : Nat) : Int) ((i - 2) % 7)
  else atEnd d (i - (2 + 7 * k))

theorem looped_steps (wdo : Int → Int → Int → Int) (hw : ∀ m : Nat, 1 ≤ m → m ≤ 100 → wdo 2 (m : Int) 1 = ((m - 1 : Nat) : Int)) (P : Nat → PartD) (len : Nat) (k : Nat) (hk : k ≤ 100) (h : code (looping k) (P 1)) (d : List Int) :
    (∀ i, i < 2 + 7 * k + 3 → step wdo P len (looped wdo d k i) = .inr (looped wdo d k (i + 1))) ∧ ∃ s, step wdo P len (looped wdo d k (2 + 7 * k + 3)) = .inl (1, 7, s) := by
  obtain ⟨a0, a1⟩ := head_steps wdo P len k h d
  obtain ⟨z0, z1, z2, z3⟩ := last_steps wdo P len k h d
  refine ⟨?_, ?_⟩
  · intro i hi
    by_cases c0 : i = 0
    · subst c0
      simpa [looped] using a0
    by_cases c1 : i = 1
    · subst c1
      rw [looped, if_neg (by decide), if_pos rfl, a1]
      rcases Nat.eq_zero_or_pos k with rfl | hp
      · simp [looped, atEnd]
      · simp [looped, inRound, show 2 < 2 + 7 * k by omega]
    by_cases c2 : i < 2 + 7 * k
    · obtain ⟨q, r, hr, rfl⟩ : ∃ q r, r < 7 ∧ i = 2 + 7 * q + r := ⟨(i - 2) / 7, (i - 2) % 7, by omega, by omega⟩
      have hq : (2 + 7 * q + r - 2) / 7 = q := by omega
      have hq' : (2 + 7 * q + r - 2) % 7 = r := by omega
      have e1 : looped wdo d k (2 + 7 * q + r) = inRound wdo d ((k - q : Nat) : Int) r := by
        rw [looped, if_neg c0, if_neg c1, if_pos c2, hq, hq']
      obtain ⟨b0, b1, b2, b3, b4, b5, b6⟩ := round_steps wdo P len k ((k - q : Nat) : Int) (by omega) h d
      rw [e1]
      by_cases c3 : r = 6
      · subst c3
        have e2 : looped wdo d k (2 + 7 * q + 6 + 1) = ⟨[⟨1, 2, seven (wdo 2 ((k - q : Nat) : Int) 1), [], none⟩], d, [], []⟩ := by
          rw [hw (k - q) (by omega) (by omega)]
          by_cases c4 : 2 + 7 * q + 6 + 1 < 2 + 7 * k
          · rw [looped, if_neg (by omega), if_neg (by omega), if_pos c4, show (2 + 7 * q + 6 + 1 - 2) / 7 = q + 1 by omega, show (2 + 7 * q + 6 + 1 - 2) % 7 = 0 by omega, show k - (q + 1) = k - q - 1 by omega]
            rfl
          · have : k = q + 1 := by omega
            rw [looped, if_neg (by omega), if_neg (by omega), if_neg c4, show 2 + 7 * q + 6 + 1 - (2 + 7 * k) = 0 by omega, show k - q - 1 = 0 by omega]
            rfl
        rw [e2]
        exact b6
      · have e2 : looped wdo d k (2 + 7 * q + r + 1) = inRound wdo d ((k - q : Nat) : Int) (r + 1) := by
          rw [looped, if_neg (by omega), if_neg (by omega), if_pos (by omega), show (2 + 7 * q + r + 1 - 2) / 7 = q by omega, show (2 + 7 * q + r + 1 - 2) % 7 = r + 1 by omega]
        rw [e2]
        rcases (show r = 0 ∨ r = 1 ∨ r = 2 ∨ r = 3 ∨ r = 4 ∨ r = 5 by omega) with rfl | rfl | rfl | rfl | rfl | rfl
        · exact b0
        · exact b1
        · exact b2
        · exact b3
        · exact b4
        · exact b5
    · obtain ⟨j, hj, rfl⟩ : ∃ j, j < 3 ∧ i = 2 + 7 * k + j := ⟨i - (2 + 7 * k), by omega, by omega⟩
      have e1 : looped wdo d k (2 + 7 * k + j) = atEnd d j := by rw [looped, if_neg c0, if_neg c1, if_neg c2, show 2 + 7 * k + j - (2 + 7 * k) = j by omega]
      have e2 : looped wdo d k (2 + 7 * k + j + 1) = atEnd d (j + 1) := by rw [looped, if_neg (by omega), if_neg (by omega), if_neg (by omega), show 2 + 7 * k + j + 1 - (2 + 7 * k) = j + 1 by omega]
      rw [e1, e2]
      rcases (show j = 0 ∨ j = 1 ∨ j = 2 by omega) with rfl | rfl | rfl
      · exact z0
      · exact z1
      · exact z2
  · have e : looped wdo d k (2 + 7 * k + 3) = atEnd d 3 := by rw [looped, if_neg (by omega), if_neg (by omega), if_neg (by omega), show 2 + 7 * k + 3 - (2 + 7 * k) = 3 by omega]
    rw [e]
    exact ⟨_, z3⟩

/-- A LOOP GOES ROUND AS OFTEN AS IT IS TOLD; fuel is a unit a step -/
theorem loops (wdo : Int → Int → Int → Int) (hw : ∀ m : Nat, 1 ≤ m → m ≤ 100 → wdo 2 (m : Int) 1 = ((m - 1 : Nat) : Int)) (P : Nat → PartD) (len : Nat) (k : Nat) (hk : k ≤ 100) (h : code (looping k) (P 1)) (d : List Int) :
    (∃ s, run wdo P len (2 + 7 * k + 2 + 2) (start d) = (1, 7, s)) ∧ ∀ m, m < 2 + 7 * k + 2 + 2 → ∃ s, run wdo P len m (start d) = (3, 0, s) := by
  obtain ⟨hs, s, he⟩ := looped_steps wdo hw P len k hk h d
  have e0 : looped wdo d k 0 = start d := rfl
  rw [← e0]
  exact ⟨⟨s, run_all (looped wdo d k) (2 + 7 * k + 3) hs he _ 0 (by omega) (by omega)⟩, fun m hm => ⟨_, run_spent (looped wdo d k) (2 + 7 * k + 3) hs m 0 (by omega)⟩⟩

/-- it faults, and nothing of it is done -/
def Faults (wdo : Int → Int → Int → Int) (P : Nat → PartD) (len : Nat) (d : List Int) : Prop := ∃ s, run wdo P len 1000 (start d) = (4, 0, s) ∧ s.data = d ∧ s.told = []

/-- WHO TOUCHES OTHERS' WORDS, or enters elsewhere than at an entry, or takes what is not there, faults -/
theorem wall0 (wdo : Int → Int → Int → Int) (P : Nat → PartD) (len : Nat) (x : Int) (h : code [(1, x, 0, 0), (1, 9, 0, 0), (7, 0, 0, 0), (1, 0, 0, 0), (13, 0, 0, 0)] (P 1)) (hx : x < (P 1).lo) (d : List Int) : Faults wdo P len d := by
  have s0 : step wdo P len (start d) = .inr ⟨[⟨1, 1, List.replicate 8 0, [x], none⟩], d, [], []⟩ := (step_at h (k := 0) rfl (by simp [needs])).trans (by simp [act, needs, puts])
  have s1 : step wdo P len ⟨[⟨1, 1, List.replicate 8 0, [x], none⟩], d, [], []⟩ = .inr ⟨[⟨1, 2, List.replicate 8 0, [x, 9], none⟩], d, [], []⟩ := (step_at h (k := 1) rfl (by simp [needs])).trans (by simp [act, needs, puts])
  have s2 : step wdo P len ⟨[⟨1, 2, List.replicate 8 0, [x, 9], none⟩], d, [], []⟩ = .inl (4, 0, ⟨[⟨1, 2, List.replicate 8 0, [x, 9], none⟩], d, [], []⟩) := (step_at h (k := 2) rfl (by simp [needs])).trans (by simp [act, needs, ends]; omega)
  exact ⟨_, (run_next s0).trans ((run_next s1).trans (run_ends s2)), rfl, rfl⟩

theorem wall1 (wdo : Int → Int → Int → Int) (P : Nat → PartD) (len : Nat) (x : Int) (h : code [(1, x, 0, 0), (6, 0, 0, 0), (13, 0, 0, 0)] (P 1)) (hx : ¬ ((P 1).lo ≤ x ∧ x < (P 1).hi)) (d : List Int) : Faults wdo P len d := by
  have s0 : step wdo P len (start d) = .inr ⟨[⟨1, 1, List.replicate 8 0, [x], none⟩], d, [], []⟩ := (step_at h (k := 0) rfl (by simp [needs])).trans (by simp [act, needs, puts])
  have s1 : step wdo P len ⟨[⟨1, 1, List.replicate 8 0, [x], none⟩], d, [], []⟩ = .inl (4, 0, ⟨[⟨1, 1, List.replicate 8 0, [x], none⟩], d, [], []⟩) := (step_at h (k := 1) rfl (by simp [needs])).trans (by simp [act, needs, ends]; omega)
  exact ⟨_, (run_next s0).trans (run_ends s1), rfl, rfl⟩

theorem wall2 (wdo : Int → Int → Int → Int) (P : Nat → PartD) (len : Nat) (a b : Int) (h : code [(12, a, b, 0), (13, 0, 0, 0)] (P 1)) (hx : ¬ (a < len ∧ b < (P a.toNat).el)) (d : List Int) : Faults wdo P len d := by
  have s0 : step wdo P len (start d) = .inl (4, 0, start d) := (step_at h (k := 0) rfl (by simp [needs])).trans (by
    simp only [act, needs, ends, start]
    rw [if_neg (by decide), if_neg (by decide), if_neg (by decide), if_neg (by decide), if_neg (by decide), if_neg (by decide), if_neg (by decide), if_neg (by decide), if_neg (by decide), if_neg (by decide), if_neg (by decide), if_pos True.intro, if_neg (fun hh => hx ⟨hh.1, hh.2.1⟩)])
  exact ⟨_, run_ends s0, rfl, rfl⟩

theorem wall5 (wdo : Int → Int → Int → Int) (P : Nat → PartD) (len : Nat) (h : code [(1, 0, 0, 0), (1, 0, 0, 0), (12, 0, 0, 2), (13, 0, 0, 0)] (P 1)) (hx : (P 0).prs 0 ≠ 2) (d : List Int) : Faults wdo P len d := by
  have s0 : step wdo P len (start d) = .inr ⟨[⟨1, 1, List.replicate 8 0, [0], none⟩], d, [], []⟩ := (step_at h (k := 0) rfl (by simp [needs])).trans (by simp [act, needs, puts])
  have s1 : step wdo P len ⟨[⟨1, 1, List.replicate 8 0, [0], none⟩], d, [], []⟩ = .inr ⟨[⟨1, 2, List.replicate 8 0, [0, 0], none⟩], d, [], []⟩ := (step_at h (k := 1) rfl (by simp [needs])).trans (by simp [act, needs, puts])
  have s2 : step wdo P len ⟨[⟨1, 2, List.replicate 8 0, [0, 0], none⟩], d, [], []⟩ = .inl (4, 0, ⟨[⟨1, 2, List.replicate 8 0, [0, 0], none⟩], d, [], []⟩) := (step_at h (k := 2) rfl (by simp [needs])).trans (by simp [act, ends, hx])
  exact ⟨_, (run_next s0).trans ((run_next s1).trans (run_ends s2)), rfl, rfl⟩

/-- a step at a place where there are too few words -/
theorem step_few {wdo : Int → Int → Int → Int} {P : Nat → PartD} {len : Nat} {l : List (Int × Int × Int × Int)} (h : code l (P 1)) {k : Nat} {lo ws : List Int} {nt : Option Nat} {rest : List Fr} {d t : List Int} {cs : List Rec} {op a b c : Int}
    (hk : l[k]? = some (op, a, b, c)) (hn : ¬ needs op b c ≤ ws.length) :
    step wdo P len ⟨⟨1, k, lo, ws, nt⟩ :: rest, d, t, cs⟩ = .inl (4, 0, ⟨⟨1, k, lo, ws, nt⟩ :: rest, d, t, cs⟩) := by
  have hl : k < l.length := (List.getElem?_eq_some_iff.1 hk).1
  obtain ⟨e0, e1, e2, e3⟩ := h.2 k hl
  rw [List.getD_eq_getElem?_getD, hk] at e0 e1 e2 e3
  simp only [Option.getD_some] at e0 e1 e2 e3
  simp only [step, h.1, e0, e2, e3, if_pos hl, if_neg hn, ends]

/-- a step behind the code -/
theorem step_behind {wdo : Int → Int → Int → Int} {P : Nat → PartD} {len : Nat} {l : List (Int × Int × Int × Int)} (h : code l (P 1)) {k : Nat} {lo ws : List Int} {nt : Option Nat} {rest : List Fr} {d t : List Int} {cs : List Rec} (hk : l.length ≤ k) :
    step wdo P len ⟨⟨1, k, lo, ws, nt⟩ :: rest, d, t, cs⟩ = .inl (4, 0, ⟨⟨1, k, lo, ws, nt⟩ :: rest, d, t, cs⟩) := by
  simp only [step, h.1, if_neg (show ¬ k < l.length by omega), ends]

theorem wall6 (wdo : Int → Int → Int → Int) (P : Nat → PartD) (len : Nat) (op a b c : Int) (r : List (Int × Int × Int × Int)) (h : code ((op, a, b, c) :: r) (P 1)) (hn : 0 < needs op b c) (d : List Int) : Faults wdo P len d :=
  ⟨_, run_ends (step_few h (k := 0) rfl (by simp; omega)), rfl, rfl⟩

theorem wall9 (wdo : Int → Int → Int → Int) (P : Nat → PartD) (len : Nat) (a : Int) (ha : 1 ≤ a) (h : code [(9, a, 0, 0)] (P 1)) (d : List Int) : Faults wdo P len d := by
  have s0 : step wdo P len (start d) = .inr ⟨[⟨1, a.toNat, List.replicate 8 0, [], none⟩], d, [], []⟩ := (step_at h (k := 0) rfl (by simp [needs])).trans (by simp [act, needs, puts])
  exact ⟨_, (run_next s0).trans (run_ends (step_behind h (by simp; omega))), rfl, rfl⟩

/-- where the code stands that puts one word more each time round -/
def heaped (d : List Int) (i : Nat) : St := ⟨[⟨1, i % 2, List.replicate 8 0, List.replicate ((i + 1) / 2) 0, none⟩], d, [], []⟩

theorem wall10 (wdo : Int → Int → Int → Int) (P : Nat → PartD) (len : Nat) (h : code [(1, 0, 0, 0), (9, 0, 0, 0)] (P 1)) (d : List Int) : Faults wdo P len d := by
  have hs : ∀ i, i < 80 → step wdo P len (heaped d i) = .inr (heaped d (i + 1)) := by
    intro i hi
    rcases (show i % 2 = 0 ∨ i % 2 = 1 by omega) with e | e
    · rw [heaped, heaped, e, show (i + 1) % 2 = 1 by omega]
      refine (step_at h (k := 0) rfl (by simp [needs])).trans ?_
      simp [act, needs, puts]
      rw [if_pos (by omega), show (i + 1 + 1) / 2 = (i + 1) / 2 + 1 by omega, List.replicate_succ']
    · rw [heaped, heaped, e, show (i + 1) % 2 = 0 by omega]
      refine (step_at h (k := 1) rfl (by simp [needs])).trans ?_
      simp [act, needs, puts]
      rw [if_pos (by omega), show (i + 1 + 1) / 2 = (i + 1) / 2 by omega]
  have he : step wdo P len (heaped d 80) = .inl (4, 0, heaped d 80) := (step_at h (k := 0) rfl (by simp [needs])).trans (by simp [act, needs, puts, ends, heaped])
  have e0 : heaped d 0 = start d := rfl
  refine ⟨heaped d 80, ?_, rfl, rfl⟩
  rw [← e0]
  exact run_all (heaped d) 80 hs he 1000 0 (by omega) (by omega)
end Go.Proofs.YtmbbkabecipkaacDoor.Mach

namespace Go.Proofs.YtmbbkabecipkaacDoor.Own
open Go.RowKit

/-- 'append' onto a row of one's own: the row behind it is the same block, or the next new one -/
theorem run_append_fresh {P : Program} (w : World) (base : Nat) (t ty e : TypeId) (i : TypeInfo) (z : Value) (size bytes : Nat) (ht : P.underlying t = some (.slice e)) (hi : P.info? e = some i) (hz : i.zero = some z)
    (hsize : i.size = size) (hby : i.bytes = bytes) (hzs : z.cells.size = size) (hsz : 0 < size)
    (v : Value) (n : Nat) (xs : List Value) (hown : w.ownsRow base e size v n xs)
    (a : Addr) (m c : Nat) (hm : 0 < m) (news : List Value) (hl : news.length = m * size) (hnews : ∀ j u, news[j]? = some u → w.cell? (a.add j) = some u) (h1 : ∀ u ∈ news, u.oneCell' = true)
    (h63 : n + m ≤ maxLen) (hbytes : (n + m) * bytes ≤ 140737488355328) (hbase : base ≤ w.heap.size) :
    ∃ v' w', (Builtin.append_ #[t, t] ty #[v, .slice (some a) m c]).run P w = .ok v' w' ∧ w'.ownsRow base e size v' (n + m) (xs ++ news) ∧ w.grownBy w' v.ownBlock ∧
      (v'.ownBlock = v.ownBlock ∨ v'.ownBlock = some w.heap.size) := by
  obtain ⟨v', w', hr, ho, hg, _⟩ := run_append_own (P := P) w base t ty e i z size bytes ht hi hz hsize hby hzs hsz v n xs hown a m c news hl hnews h1 h63 hbytes hbase
  refine ⟨v', w', hr, ho, hg, ?_⟩
  subst hsize
  subst hby
  have hsmall : n + m ≤ 9223372036854775807 := by simp only [maxLen] at h63; omega
  rcases hown.2 with ⟨rfl, rfl⟩ | ⟨g, cap, cur, rfl, hbg, hgg, hnc, hcm, hcs, htake⟩
  · have hr2 := run_append_nil (P := P) w t ty e i z ht hi hz a m c news hl hnews hm (by omega) (by have hb := hbytes; simp only [Nat.zero_add] at hb; omega)
    rw [hr] at hr2
    injection hr2 with e1 e2
    subst e1
    exact .inr rfl
  · by_cases hroom : n + m ≤ cap
    · have hfit : n * i.size + news.length ≤ cur.size := by rw [hl, hcs, ← Nat.add_mul]; exact Nat.mul_le_mul_right _ hroom
      have hr2 := run_append_room (P := P) w t ty e i ht hi g n cap cur hgg a m c news hl hnews h1 hroom hfit
      rw [hr] at hr2
      injection hr2 with e1 e2
      subst e1
      exact .inl rfl
    · have holds : ∀ j u, xs[j]? = some u → w.cell? ((⟨g, 0, none⟩ : Addr).add j) = some u := hown.cells (g := g) rfl
      have hr2 := run_append_grow (P := P) w t ty e i z ht hi hz ⟨g, 0, none⟩ n cap xs hown.1 holds a m c news hl hnews (by omega) (by omega) (growslice_fits (by omega) hbytes)
      rw [hr] at hr2
      injection hr2 with e1 e2
      subst e1
      exact .inr rfl

theorem wp_append_fresh {P : Program} (w : World) {o : Oper} {a : Act} {K : Act → World → Prop} {Q : Exit → Act → World → Prop} (s x : Operand) (t : TypeId)
    (ho : o.op = .call { callee := .builtin .append, args := #[s, x], argTypes := #[t, t] })
    (base : Nat) (e : TypeId) (i : TypeInfo) (z : Value) (size bytes : Nat) (ht : P.underlying t = some (.slice e)) (hi : P.info? e = some i) (hz : i.zero = some z)
    (hsize : i.size = size) (hby : i.bytes = bytes) (hzs : z.cells.size = size) (hsz : 0 < size)
    (v : Value) (n : Nat) (xs : List Value) (hs : a.eval s = v) (hown : w.ownsRow base e size v n xs)
    (ad : Addr) (m c : Nat) (hm : 0 < m) (news : List Value) (hx : a.eval x = .slice (some ad) m c) (hl : news.length = m * size) (hnews : ∀ j u, news[j]? = some u → w.cell? (ad.add j) = some u) (h1 : ∀ u ∈ news, u.oneCell' = true)
    (h63 : n + m ≤ maxLen) (hbytes : (n + m) * bytes ≤ 140737488355328) (hbase : base ≤ w.heap.size)
    (h : ∀ g' c' w', w'.ownsRow base e size (.slice (some ⟨g', 0, none⟩) (n + m) c') (n + m) (xs ++ news) → w.grownBy w' v.ownBlock → ((Value.slice (some ⟨g', 0, none⟩) (n + m) c').ownBlock = v.ownBlock ∨ (Value.slice (some ⟨g', 0, none⟩) (n + m) c').ownBlock = some w.heap.size) → K (a.put o.dst (.slice (some ⟨g', 0, none⟩) (n + m) c')) w') : o.wp P a w K Q := by
  obtain ⟨v', w', hr, h2, h3, h4⟩ := run_append_fresh (P := P) w base t o.type e i z size bytes ht hi hz hsize hby hzs hsz v n xs hown ad m c hm news hl hnews h1 h63 hbytes hbase
  unfold Oper.wp execOp
  simp only [ho, resolve, invoke, builtin, Sem.run_bind, Sem.run_pure, Result.andThen_ok, List.map_toArray, List.map_cons, List.map_nil, hs, hx, hr]
  rcases h2.2 with ⟨_, h0⟩ | ⟨g', c', cur, hv, _⟩
  · omega
  · subst hv
    exact h g' c' w' h2 h3 h4

theorem wpList_append_fresh {P : Program} (w : World) {ops : Array Oper} {rest : List Oper} {o : Oper} {a : Act} {Q : Exit → Act → World → Prop} (hgd : o.guard = none) (s x : Operand) (t : TypeId)
    (ho : o.op = .call { callee := .builtin .append, args := #[s, x], argTypes := #[t, t] })
    (base : Nat) (e : TypeId) (i : TypeInfo) (z : Value) (size bytes : Nat) (ht : P.underlying t = some (.slice e)) (hi : P.info? e = some i) (hz : i.zero = some z)
    (hsize : i.size = size) (hby : i.bytes = bytes) (hzs : z.cells.size = size) (hsz : 0 < size)
    (v : Value) (n : Nat) (xs : List Value) (hs : a.eval s = v) (hown : w.ownsRow base e size v n xs)
    (ad : Addr) (m c : Nat) (hm : 0 < m) (news : List Value) (hx : a.eval x = .slice (some ad) m c) (hl : news.length = m * size) (hnews : ∀ j u, news[j]? = some u → w.cell? (ad.add j) = some u) (h1 : ∀ u ∈ news, u.oneCell' = true)
    (h63 : n + m ≤ maxLen) (hbytes : (n + m) * bytes ≤ 140737488355328) (hbase : base ≤ w.heap.size)
    (h : ∀ g' c' w', w'.ownsRow base e size (.slice (some ⟨g', 0, none⟩) (n + m) c') (n + m) (xs ++ news) → w.grownBy w' v.ownBlock → ((Value.slice (some ⟨g', 0, none⟩) (n + m) c').ownBlock = v.ownBlock ∨ (Value.slice (some ⟨g', 0, none⟩) (n + m) c').ownBlock = some w.heap.size) → wpList P ops Q rest (a.put o.dst (.slice (some ⟨g', 0, none⟩) (n + m) c')) w') : wpList P ops Q (o :: rest) a w :=
  wpList_plain hgd fun _ hK => wp_append_fresh w s x t ho base e i z size bytes ht hi hz hsize hby hzs hsz v n xs hs hown ad m c hm news hx hl hnews h1 h63 hbytes hbase fun g' c' w' h2 h3 h4 => hK _ _ (h g' c' w' h2 h3 h4)

/-- .. as one step of a region that draws its order -/
theorem step_append_fresh {P : Program} {ops : Array Oper} {o : Oper} {a : Act} {w : World} {K : Act → World → Prop} {Q : Exit → Act → World → Prop} {E : Prop}
    (hg : o.guard = none) (s x : Operand) (t : TypeId) (hop : o.op = Op.call { callee := Callee.builtin Builtin.append, args := #[s, x], argTypes := #[t, t] })
    (base : Nat) (e : TypeId) (i : TypeInfo) (z : Value) (size bytes : Nat) (ht : P.underlying t = some (.slice e)) (hi : P.info? e = some i) (hz : i.zero = some z)
    (hsize : i.size = size) (hby : i.bytes = bytes) (hzs : z.cells.size = size) (hsz : 0 < size)
    (v : Value) (n : Nat) (xs : List Value) (hs : a.eval s = v) (hown : w.ownsRow base e size v n xs)
    (ad : Addr) (m c : Nat) (hm : 0 < m) (news : List Value) (hx : a.eval x = .slice (some ad) m c) (hl : news.length = m * size) (hnews : ∀ j u, news[j]? = some u → w.cell? (ad.add j) = some u) (h1 : ∀ u ∈ news, u.oneCell' = true)
    (h63 : n + m ≤ maxLen) (hbytes : (n + m) * bytes ≤ 140737488355328) (hbase : base ≤ w.heap.size)
    (h : ∀ g' c' w', w'.ownsRow base e size (.slice (some ⟨g', 0, none⟩) (n + m) c') (n + m) (xs ++ news) → w.grownBy w' v.ownBlock → ((Value.slice (some ⟨g', 0, none⟩) (n + m) c').ownBlock = v.ownBlock ∨ (Value.slice (some ⟨g', 0, none⟩) (n + m) c').ownBlock = some w.heap.size) → K (a.put o.dst (.slice (some ⟨g', 0, none⟩) (n + m) c')) w') :
    if Region.wanted o (yielded ops a.tmps) = true then Oper.wp P o a w K Q else E := by
  have hw : Region.wanted o (yielded ops a.tmps) = true := by simp [Region.wanted, hg]
  rw [if_pos hw]
  exact wp_append_fresh w s x t hop base e i z size bytes ht hi hz hsize hby hzs hsz v n xs hs hown ad m c hm news hx hl hnews h1 h63 hbytes hbase h

/-- whose a block is -/
abbrev Tag := Nat × Nat

/-- from w to w' the blocks of one tag alone may have turned, and new ones may be there -/
structure Moves (own own' : Nat → Tag) (w w' : World) (t : Tag) : Prop where
  os : w'.os = w.os
  tape : w'.tape = w.tape
  output : w'.output = w.output
  size : w.heap.size ≤ w'.heap.size
  block : ∀ k, k < w.heap.size → own k ≠ t → w'.heap[k]? = w.heap[k]?
  tags : ∀ k, k < w.heap.size → own' k = own k

theorem Moves.refl (own : Nat → Tag) (w : World) (t : Tag) : Moves own own w w t := ⟨rfl, rfl, rfl, Nat.le_refl _, fun _ _ _ => rfl, fun _ _ => rfl⟩

theorem Moves.trans {own own' own'' : Nat → Tag} {w w' w'' : World} {t : Tag} (h : Moves own own' w w' t) (k : Moves own' own'' w' w'' t) : Moves own own'' w w'' t :=
  ⟨k.os.trans h.os, k.tape.trans h.tape, k.output.trans h.output, Nat.le_trans h.size k.size,
    fun i hi ht => (k.block i (Nat.lt_of_lt_of_le hi h.size) (by rw [h.tags i hi]; exact ht)).trans (h.block i hi ht), fun i hi => (k.tags i (Nat.lt_of_lt_of_le hi h.size)).trans (h.tags i hi)⟩

theorem Moves.alloc (own : Nat → Tag) (w : World) (o : Obj) (t : Tag) : Moves own own w (w.alloc o) t :=
  ⟨rfl, rfl, rfl, by simp, fun k hk _ => Below.heap_alloc w o k hk, fun _ _ => rfl⟩

theorem Moves.drew (own : Nat → Tag) (w : World) (t : Tag) : Moves own own w w.drew t := ⟨rfl, rfl, rfl, Nat.le_refl _, fun _ _ _ => rfl, fun _ _ => rfl⟩

theorem Moves.setCell (own : Nat → Tag) (w : World) (g j : Nat) (u : Value) {t : Tag} (h : own g = t) : Moves own own w (w.setCell ⟨g, j, none⟩ u) t :=
  ⟨rfl, rfl, rfl, by simp [World.setCell], fun k _ ht => Below.heap_setCell _ _ _ _ (fun e => ht (by rw [← h]; exact congrArg own e)), fun _ _ => rfl⟩

theorem Moves.setRow (own : Nat → Tag) (w : World) (g : Nat) (cs : Array Value) {t : Tag} (h : own g = t) : Moves own own w (w.setRow g cs) t :=
  ⟨rfl, rfl, rfl, by simp, fun k _ ht => setRow_other w g k _ (fun e => ht (by rw [← h, e])), fun _ _ => rfl⟩

/-- a new block for a tag -/
def also (own : Nat → Tag) (n : Nat) (t : Tag) : Nat → Tag := fun k => if k = n then t else own k

theorem Moves.grown {own : Nat → Tag} {w w' : World} {v : Value} {t : Tag} (hv : ∀ g, v.ownBlock = some g → own g = t) (hg : w.grownBy w' v.ownBlock) : Moves own (also own w.heap.size t) w w' t :=
  ⟨hg.os, hg.tape, hg.output, hg.size, fun k hk ht => hg.block k hk (fun e => ht (hv k e.symm)), fun k hk => by unfold also; rw [if_neg (by omega)]⟩

theorem also_tag {own : Nat → Tag} {w : World} {v v' : Value} {t : Tag} (hv : ∀ g, v.ownBlock = some g → own g = t) (h : v'.ownBlock = v.ownBlock ∨ v'.ownBlock = some w.heap.size) : ∀ g, v'.ownBlock = some g → also own w.heap.size t g = t := by
  intro g hg
  unfold also
  split
  · rfl
  · rename_i hne
    rcases h with h | h
    · exact hv g (by rw [← h]; exact hg)
    · rw [hg] at h
      exact absurd (Option.some.inj h) hne

/-- a row that is owned, with its tag -/
structure Owned (own : Nat → Tag) (w : World) (e : TypeId) (size : Nat) (v : Value) (n : Nat) (xs : List Value) (t : Tag) : Prop where
  row : w.ownsRow 0 e size v n xs
  tag : ∀ g, v.ownBlock = some g → own g = t

theorem Owned.moves {own own' : Nat → Tag} {w w' : World} {e : TypeId} {size : Nat} {v : Value} {n : Nat} {xs : List Value} {t t' : Tag} (h : Owned own w e size v n xs t) (m : Moves own own' w w' t') (hne : t ≠ t') : Owned own' w' e size v n xs t := by
  refine ⟨⟨h.row.1, ?_⟩, fun g hg => (m.tags g (h.row.lt g hg).2).trans (h.tag g hg)⟩
  rcases h.row.2 with hn | ⟨g, cap, cur, rfl, hb, hgg, rest⟩
  · exact .inl hn
  · refine .inr ⟨g, cap, cur, rfl, hb, ?_, rest⟩
    rw [m.block g (Array.getElem?_eq_some_iff.1 hgg).1 (by rw [h.tag g rfl]; exact hne)]
    exact hgg

theorem Owned.nil (own : Nat → Tag) (w : World) (e : TypeId) (size : Nat) (t : Tag) : Owned own w e size (.slice none 0 0) 0 [] t := ⟨World.ownsRow_nil _ _ _ _, fun g hg => by simp [Value.ownBlock] at hg⟩

/-- a block that is known whole, with its tag -/
structure Block (own : Nat → Tag) (w : World) (g : Nat) (cs : Array Value) (e : TypeId) (t : Tag) : Prop where
  heap : w.heap[g]? = some (.cells cs e (0, 0))
  tag : own g = t

theorem Block.lt {own : Nat → Tag} {w : World} {g : Nat} {cs : Array Value} {e : TypeId} {t : Tag} (h : Block own w g cs e t) : g < w.heap.size := (Array.getElem?_eq_some_iff.1 h.heap).1

theorem Block.moves {own own' : Nat → Tag} {w w' : World} {g : Nat} {cs : Array Value} {e : TypeId} {t t' : Tag} (h : Block own w g cs e t) (m : Moves own own' w w' t') (hne : t ≠ t') : Block own' w' g cs e t :=
  ⟨(m.block g h.lt (by rw [h.tag]; exact hne)).trans h.heap, (m.tags g h.lt).trans h.tag⟩

theorem Block.cell {own : Nat → Tag} {w : World} {g : Nat} {cs : Array Value} {e : TypeId} {t : Tag} (h : Block own w g cs e t) (j : Nat) {v : Value} (hv : cs[j]? = some v) : w.cell? ⟨g, j, none⟩ = some v := (cell_of_row w g j cs e (0, 0) h.heap).trans hv
theorem Block.frozen {own : Nat → Tag} {w : World} {g : Nat} {cs : Array Value} {e : TypeId} {t : Tag} (h : Block own w g cs e t) (j : Nat) : w.frozen? ⟨g, j, none⟩ = false := frozen_of_row w g j cs e h.heap

theorem Block.set {own : Nat → Tag} {w : World} {g : Nat} {cs : Array Value} {e : TypeId} {t : Tag} (h : Block own w g cs e t) (j : Nat) (u : Value) : Block own (w.setCell ⟨g, j, none⟩ u) g (cs.setIfInBounds j u) e t :=
  ⟨heap_setCell_same w g j cs e u h.heap, h.tag⟩

/-- cells of a row that is owned: what a store does -/
theorem Owned.form {own : Nat → Tag} {w : World} {e : TypeId} {size : Nat} {v : Value} {n : Nat} {xs : List Value} {t : Tag} (h : Owned own w e size v n xs t) (hn : 0 < n) : ∃ g cap, v = .slice (some ⟨g, 0, none⟩) n cap ∧ own g = t ∧ n ≤ cap ∧ cap ≤ maxLen := by
  rcases h.row.2 with ⟨_, h0⟩ | ⟨g, cap, cur, rfl, _, _, hc, hm, _⟩
  · omega
  · exact ⟨g, cap, rfl, h.tag g rfl, hc, hm⟩

theorem Owned.cell {own : Nat → Tag} {w : World} {e : TypeId} {size g cap : Nat} {n : Nat} {xs : List Value} {t : Tag} (h : Owned own w e size (.slice (some ⟨g, 0, none⟩) n cap) n xs t) (j : Nat) {u : Value} (hu : xs[j]? = some u) : w.cell? ⟨g, j, none⟩ = some u := by
  have := h.row.cells (g := g) rfl j u hu
  rwa [show (⟨g, 0, none⟩ : Addr).add j = ⟨g, j, none⟩ by unfold Addr.add; split <;> simp_all] at this

theorem Owned.frozen {own : Nat → Tag} {w : World} {e : TypeId} {size g cap : Nat} {n : Nat} {xs : List Value} {t : Tag} (h : Owned own w e size (.slice (some ⟨g, 0, none⟩) n cap) n xs t) (j : Nat) : w.frozen? ⟨g, j, none⟩ = false := by
  rcases h.row.2 with ⟨h0, _⟩ | ⟨g', cap', cur, hv, _, hh, _⟩
  · cases h0
  · cases hv
    exact frozen_of_row w g j cur e hh

theorem Owned.set {own : Nat → Tag} {w : World} {e : TypeId} {size g cap : Nat} {n : Nat} {xs : List Value} {t : Tag} (h : Owned own w e size (.slice (some ⟨g, 0, none⟩) n cap) n xs t) (j : Nat) (u : Value) : Owned own (w.setCell ⟨g, j, none⟩ u) e size (.slice (some ⟨g, 0, none⟩) n cap) n (xs.set j u) t := by
  refine ⟨⟨by rw [List.length_set]; exact h.row.1, ?_⟩, h.tag⟩
  rcases h.row.2 with ⟨h0, _⟩ | ⟨g', cap', cur, hv, hb, hh, hn, hm, hs, ht⟩
  · cases h0
  · cases hv
    refine .inr ⟨g, cap, _, rfl, hb, heap_setCell_same w g j cur e u hh, hn, hm, by simpa using hs, ?_⟩
    rw [← ht, Array.toList_setIfInBounds, List.take_set]
end Go.Proofs.YtmbbkabecipkaacDoor.Own

namespace Go.Proofs.YtmbbkabecipkaacDoor.Inv
open Go.RowKit Tab Img Mach Own

def ints (l : List Int) : List Value := l.map (Value.int .i64)
/-- the note of a frame, as the code has it -/
def note : Option Nat → Int
  | none => -1
  | some k => k
def frCells (f : Fr) (v : Value) : List Value := .int .i64 f.part :: .int .i64 f.pc :: (ints f.locals ++ [v, .int .i64 (note f.noted)])
/-- frames, the last one first, as they lie: the last one last -/
def flat : List (Fr × Value) → List Value
  | [] => []
  | (f, v) :: F => flat F ++ frCells f v
def recCells (r : Rec) (v : Value) : List Value := [.int .i64 r.by_, .int .i64 r.part, .int .i64 r.entry, v, .int .i64 r.deep, .bool r.done, .int .i64 r.value]
def flatC (C : List (Rec × Value)) : List Value := C.flatMap fun p => recCells p.1 p.2

theorem ints_length (l : List Int) : (ints l).length = l.length := by simp [ints]
theorem frCells_length {f : Fr} (h : f.locals.length = 8) (v : Value) : (frCells f v).length = 12 := by simp [frCells, ints, h]

/-- words of a frame, and behind them those that were taken and not yet written over -/
def WordsAt (own : Nat → Tag) (w : World) (v : Value) (ws l : List Int) (t : Tag) : Prop :=
  (v = .slice none 0 0 ∧ ws = [] ∧ l = []) ∨
  ∃ g cap cur, v = .slice (some ⟨g, 0, none⟩) ws.length cap ∧ own g = t ∧ w.heap[g]? = some (.cells cur 3 (0, 0)) ∧ ws.length + l.length ≤ cap ∧ cap ≤ maxLen ∧ cur.size = cap ∧ cur.toList.take (ws.length + l.length) = ints (ws ++ l)

theorem WordsAt.moves {own own' : Nat → Tag} {w w' : World} {v : Value} {ws l : List Int} {t t' : Tag} (h : WordsAt own w v ws l t) (m : Moves own own' w w' t') (hne : t ≠ t') : WordsAt own' w' v ws l t := by
  rcases h with h | ⟨g, cap, cur, hv, ht, hg, r⟩
  · exact .inl h
  · have hl := (Array.getElem?_eq_some_iff.1 hg).1
    exact .inr ⟨g, cap, cur, hv, (m.tags g hl).trans ht, (m.block g hl (by rw [ht]; exact hne)).trans hg, r⟩

theorem WordsAt.less {own : Nat → Tag} {w : World} {v : Value} {ws l : List Int} {t : Tag} (h : WordsAt own w v ws l t) : WordsAt own w v ws [] t := by
  rcases h with ⟨h, h', _⟩ | ⟨g, cap, cur, hv, ht, hg, h1, h2, h3, h4⟩
  · exact .inl ⟨h, h', rfl⟩
  · refine .inr ⟨g, cap, cur, hv, ht, hg, by simp; omega, h2, h3, ?_⟩
    have : (cur.toList.take (ws.length + l.length)).take ws.length = (ints (ws ++ l)).take ws.length := by rw [h4]
    rw [List.take_take, Nat.min_eq_left (by omega)] at this
    simp only [List.length_nil, Nat.add_zero, List.append_nil]
    rw [this]
    simp [ints]

theorem WordsAt.owned {own : Nat → Tag} {w : World} {v : Value} {ws l : List Int} {t : Tag} (h : WordsAt own w v ws l t) : Owned own w 3 1 v ws.length (ints ws) t := by
  rcases h.less with ⟨h, h', _⟩ | ⟨g, cap, cur, hv, ht, hg, h1, h2, h3, h4⟩
  · subst h h'
    exact Owned.nil _ _ _ _ _
  · subst hv
    simp only [List.length_nil, Nat.add_zero, List.append_nil] at h1 h4
    exact ⟨⟨by simp [ints], .inr ⟨g, cap, cur, rfl, Nat.zero_le _, hg, h1, h2, by omega, by rw [Nat.mul_one]; exact h4⟩⟩, fun g' hg' => by simp [Value.ownBlock] at hg'; rw [← hg']; exact ht⟩

theorem WordsAt.of {own : Nat → Tag} {w : World} {v : Value} {ws : List Int} {t : Tag} (h : Owned own w 3 1 v ws.length (ints ws) t) : WordsAt own w v ws [] t := by
  rcases h.row.2 with ⟨h0, h1⟩ | ⟨g, cap, cur, hv, _, hg, h1, h2, h3, h4⟩
  · exact .inl ⟨h0, List.eq_nil_of_length_eq_zero h1, rfl⟩
  · subst hv
    exact .inr ⟨g, cap, cur, rfl, h.tag g rfl, hg, by simpa using h1, h2, by omega, by simpa using h4⟩

/-- taking: the last words go behind the length -/
theorem WordsAt.take {own : Nat → Tag} {w : World} {v : Value} {ws : List Int} {t : Tag} (h : WordsAt own w v ws [] t) (n : Nat) (hn : n ≤ ws.length) {v' : Value}
    (hv : (v = .slice none 0 0 → v' = .slice none 0 0) ∧ ∀ g cap, v = .slice (some ⟨g, 0, none⟩) ws.length cap → v' = .slice (some ⟨g, 0, none⟩) (ws.length - n) cap) :
    WordsAt own w v' (ws.take (ws.length - n)) (ws.drop (ws.length - n)) t := by
  rcases h with ⟨h, h', _⟩ | ⟨g, cap, cur, h, ht, hg, h1, h2, h3, h4⟩
  · subst h'
    exact .inl ⟨hv.1 h, by simp, by simp⟩
  · refine .inr ⟨g, cap, cur, ?_, ht, hg, ?_, h2, h3, ?_⟩
    · rw [hv.2 g cap h]
      simp
    · simp at h1 ⊢; omega
    · rw [List.take_append_drop]
      simp only [List.length_nil, Nat.add_zero, List.append_nil] at h4
      rw [List.length_take, List.length_drop, ← h4]
      congr 1
      omega

/-- tv: the slice of the n words that were taken behind those of v -/
def Cut (v tv : Value) (n : Nat) : Prop := ∃ ao c, tv = .slice ao n c ∧ (0 < n → ∃ g len cap, v = .slice (some ⟨g, 0, none⟩) len cap ∧ ao = some ⟨g, len, none⟩)

theorem WordsAt.cut {own : Nat → Tag} {w : World} {v tv : Value} {ws l : List Int} {t : Tag} (h : WordsAt own w v ws l t) (hc : Cut v tv l.length) :
    ∃ ao c, tv = .slice ao l.length c ∧ ∀ i x, l[i]? = some x → ∃ g, ao = some ⟨g, ws.length, none⟩ ∧ w.cell? ⟨g, ws.length + i, none⟩ = some (.int .i64 x) := by
  obtain ⟨ao, c, e, hp⟩ := hc
  refine ⟨ao, c, e, fun i x hx => ?_⟩
  have hi := (List.getElem?_eq_some_iff.1 hx).1
  obtain ⟨g, len, cap, hv, ha⟩ := hp (by omega)
  rcases h with ⟨h, _⟩ | ⟨g', cap', cur, hv', ht, hg, h1, h2, h3, h4⟩
  · rw [h] at hv; cases hv
  · rw [hv] at hv'
    cases hv'
    refine ⟨g, ha, (cell_of_row w g _ cur 3 (0, 0) hg).trans ?_⟩
    have h5 : (cur.toList.take (ws.length + l.length))[ws.length + i]? = (ints (ws ++ l))[ws.length + i]? := by rw [h4]
    rw [List.getElem?_take, if_pos (by omega)] at h5
    rw [← Array.getElem?_toList, h5, ints, List.map_append, List.getElem?_append_right (by simp)]
    simp [hx]

/-- the frames behind the last one -/
def Rooms (own : Nat → Tag) (w : World) : List (Fr × Value) → Prop
  | [] => True
  | (f, v) :: F => (WordsAt own w v f.words [] (6, F.length) ∧ f.locals.length = 8) ∧ Rooms own w F

/-- all frames; l: words that were taken of the last one -/
def Pend (own : Nat → Tag) (w : World) (l : List Int) : List (Fr × Value) → Prop
  | [] => l = []
  | (f, v) :: F => (WordsAt own w v f.words l (6, F.length) ∧ f.locals.length = 8) ∧ Rooms own w F

theorem Rooms.moves {own own' : Nat → Tag} {w w' : World} {t' : Tag} (m : Moves own own' w w' t') : ∀ {F : List (Fr × Value)}, Rooms own w F → (∀ k, k < F.length → t' ≠ (6, k)) → Rooms own' w' F
  | [], _, _ => trivial
  | (f, v) :: F, h, hne => ⟨⟨h.1.1.moves m (fun e => hne F.length (by simp) e.symm), h.1.2⟩, Rooms.moves m h.2 (fun k hk => hne k (by simp; omega))⟩

theorem Pend.moves {own own' : Nat → Tag} {w w' : World} {t' : Tag} (m : Moves own own' w w' t') {l : List Int} : ∀ {F : List (Fr × Value)}, Pend own w l F → (∀ k, k < F.length → t' ≠ (6, k)) → Pend own' w' l F
  | [], h, _ => h
  | (f, v) :: F, h, hne => ⟨⟨h.1.1.moves m (fun e => hne F.length (by simp) e.symm), h.1.2⟩, Rooms.moves m h.2 (fun k hk => hne k (by simp; omega))⟩

theorem Pend.rooms {own : Nat → Tag} {w : World} {l : List Int} : ∀ {F : List (Fr × Value)}, Pend own w l F → Rooms own w F
  | [], _ => trivial
  | (_, _) :: _, h => ⟨⟨h.1.1.less, h.1.2⟩, h.2⟩

theorem Rooms.pend {own : Nat → Tag} {w : World} : ∀ {F : List (Fr × Value)}, Rooms own w F → Pend own w [] F
  | [], _ => rfl
  | (_, _) :: _, h => h

theorem Rooms.flat_length {own : Nat → Tag} {w : World} : ∀ {F : List (Fr × Value)}, Rooms own w F → (flat F).length = F.length * 12
  | [], _ => rfl
  | (f, v) :: F, h => by
    have h2 := Rooms.flat_length h.2
    have h1 := frCells_length h.1.2 v
    simp only [flat, List.length_append, List.length_cons, h1, h2]
    omega

/-- the words of the calls that were noted -/
def Notes (own : Nat → Tag) (w : World) (C : List (Rec × Value)) : Prop := ∀ k r v, C[k]? = some (r, v) → Owned own w 3 1 v r.args.length (ints r.args) (7, k)

theorem Notes.moves {own own' : Nat → Tag} {w w' : World} {t' : Tag} (m : Moves own own' w w' t') {C : List (Rec × Value)} (h : Notes own w C) (hne : ∀ k, k < C.length → t' ≠ (7, k)) : Notes own' w' C :=
  fun k r v hk => (h k r v hk).moves m (fun e => hne k (List.getElem?_eq_some_iff.1 hk).1 e.symm)

/-- what lay there when the run began, and is not the run's, is as it was -/
structure Base (own : Nat → Tag) (w1 w : World) (R D : Nat) : Prop where
  os : w.os = w1.os
  tape : w.tape = w1.tape
  output : w.output = w1.output
  size : w1.heap.size ≤ w.heap.size
  kept : ∀ b, b < w1.heap.size → b ≠ R → b ≠ D → own b = (0, 0) ∧ w.heap[b]? = w1.heap[b]?

theorem Base.moves {own own' : Nat → Tag} {w1 w w' : World} {R D : Nat} {t' : Tag} (h : Base own w1 w R D) (m : Moves own own' w w' t') (hne : t' ≠ (0, 0)) : Base own' w1 w' R D :=
  ⟨m.os.trans h.os, m.tape.trans h.tape, m.output.trans h.output, Nat.le_trans h.size m.size, fun b hb hR hD =>
    ⟨(m.tags b (Nat.lt_of_lt_of_le hb h.size)).trans (h.kept b hb hR hD).1, (m.block b (Nat.lt_of_lt_of_le hb h.size) (by rw [(h.kept b hb hR hD).1]; exact hne.symm)).trans (h.kept b hb hR hD).2⟩⟩

theorem Base.cell {own : Nat → Tag} {w1 w : World} {R D : Nat} (h : Base own w1 w R D) {a : Addr} {v : Value} (hv : w1.cell? a = some v) (hR : a.block ≠ R) (hD : a.block ≠ D) : w.cell? a = some v :=
  (World.cell?_of_block (h.kept a.block (World.block_lt_of_cell? w1 a hv) hR hD).2).trans hv

/-- a run between two steps, or (l not empty) with words taken -/
structure Inv (own : Nat → Tag) (w1 w : World) (R D : Nat) (pS lS vF vT vC : Value) (fuel : Int) (F : List (Fr × Value)) (l data told : List Int) (C : List (Rec × Value)) : Prop where
  base : Base own w1 w R D
  run : Block own w R #[pS, lS, vF, .int .i64 fuel, .int .i64 0, .int .i64 0, vT, .slice (some ⟨D, 0, none⟩) data.length data.length, vC] 68 (1, 0)
  dat : Owned own w 3 1 (.slice (some ⟨D, 0, none⟩) data.length data.length) data.length (ints data) (2, 0)
  frames : Owned own w 85 12 vF F.length (flat F) (3, 0)
  told : Owned own w 3 1 vT told.length (ints told) (4, 0)
  calls : Owned own w 76 7 vC C.length (flatC C) (5, 0)
  rooms : Pend own w l F
  notes : Notes own w C

/-- new memory that is nobody's -/
theorem Inv.moves {own own' : Nat → Tag} {w1 w w' : World} {R D : Nat} {pS lS vF vT vC : Value} {fuel : Int} {F : List (Fr × Value)} {l data told : List Int} {C : List (Rec × Value)} (h : Inv own w1 w R D pS lS vF vT vC fuel F l data told C)
    (m : Moves own own' w w' (9, 9)) : Inv own' w1 w' R D pS lS vF vT vC fuel F l data told C :=
  ⟨h.base.moves m (by decide), h.run.moves m (by decide), h.dat.moves m (by decide), h.frames.moves m (by decide), h.told.moves m (by decide), h.calls.moves m (by decide),
    h.rooms.moves m (fun k _ e => by simp at e), h.notes.moves m (fun k _ e => by simp at e)⟩

theorem Inv.alloc {own : Nat → Tag} {w1 w : World} {R D : Nat} {pS lS vF vT vC : Value} {fuel : Int} {F : List (Fr × Value)} {l data told : List Int} {C : List (Rec × Value)} (h : Inv own w1 w R D pS lS vF vT vC fuel F l data told C)
    (o : Obj) : Inv own w1 (w.alloc o) R D pS lS vF vT vC fuel F l data told C := h.moves (Moves.alloc own w o _)

section
variable {own own' : Nat → Tag} {w1 w w' : World} {R D : Nat} {pS lS vF vT vC : Value} {fuel : Int} {f : Fr} {v : Value} {F : List (Fr × Value)} {l data told : List Int} {C : List (Rec × Value)}

theorem Inv.fuel_set (h : Inv own w1 w R D pS lS vF vT vC fuel F l data told C) (n : Int) : Inv own w1 (w.setCell ⟨R, 3, none⟩ (.int .i64 n)) R D pS lS vF vT vC n F l data told C := by
  have m := Moves.setCell own w R 3 (.int .i64 n) h.run.tag
  exact ⟨h.base.moves m (by decide), h.run.set 3 _, h.dat.moves m (by decide), h.frames.moves m (by decide), h.told.moves m (by decide), h.calls.moves m (by decide),
    h.rooms.moves m (fun k _ e => by simp at e), h.notes.moves m (fun k _ e => by simp at e)⟩

/-- where the frames lie -/
theorem Inv.frames_form (h : Inv own w1 w R D pS lS vF vT vC fuel ((f, v) :: F) l data told C) : ∃ g cap, vF = .slice (some ⟨g, 0, none⟩) (F.length + 1) cap ∧ own g = (3, 0) ∧ F.length + 1 ≤ cap := by
  obtain ⟨g, cap, e, t, hc, _⟩ := h.frames.form (by simp)
  exact ⟨g, cap, by simpa using e, t, by simpa using hc⟩

theorem Inv.flat_len (h : Inv own w1 w R D pS lS vF vT vC fuel ((f, v) :: F) l data told C) : (flat F).length = F.length * 12 := Rooms.flat_length h.rooms.2

/-- a cell of the last frame -/
theorem Inv.top_cell {g cap : Nat} (h : Inv own w1 w R D pS lS (.slice (some ⟨g, 0, none⟩) (F.length + 1) cap) vT vC fuel ((f, v) :: F) l data told C) (j : Nat) {u : Value} (hu : (frCells f v)[j]? = some u) :
    w.cell? ⟨g, F.length * 12 + j, none⟩ = some u := by
  have hf := h.frames
  simp only [List.length_cons] at hf
  refine hf.cell _ ?_
  rw [flat, List.getElem?_append_right (by rw [h.flat_len]; omega), h.flat_len, Nat.add_sub_cancel_left]
  exact hu

theorem Inv.top_frozen {g cap : Nat} (h : Inv own w1 w R D pS lS (.slice (some ⟨g, 0, none⟩) (F.length + 1) cap) vT vC fuel ((f, v) :: F) l data told C) (j : Nat) : w.frozen? ⟨g, j, none⟩ = false := by
  have hf := h.frames
  simp only [List.length_cons] at hf
  exact hf.frozen j

theorem Inv.top_set {g cap : Nat} {f' : Fr} {v' : Value} {l' : List Int} (h : Inv own w1 w R D pS lS (.slice (some ⟨g, 0, none⟩) (F.length + 1) cap) vT vC fuel ((f, v) :: F) l data told C) (j : Nat) (u : Value)
    (hu : (frCells f v).set j u = frCells f' v') (hp : WordsAt own w v' f'.words l' (6, F.length) ∧ f'.locals.length = 8) :
    Inv own w1 (w.setCell ⟨g, F.length * 12 + j, none⟩ u) R D pS lS (.slice (some ⟨g, 0, none⟩) (F.length + 1) cap) vT vC fuel ((f', v') :: F) l' data told C := by
  have hf := h.frames
  simp only [List.length_cons] at hf
  have m := Moves.setCell own w g (F.length * 12 + j) u (hf.tag g rfl)
  refine ⟨h.base.moves m (by decide), h.run.moves m (by decide), h.dat.moves m (by decide), ?_, h.told.moves m (by decide), h.calls.moves m (by decide),
    ⟨⟨hp.1.moves m (fun e => by simp at e), hp.2⟩, Rooms.moves m h.rooms.2 (fun k _ e => by simp at e)⟩, h.notes.moves m (fun k _ e => by simp at e)⟩
  have := hf.set (F.length * 12 + j) u
  rw [flat, List.set_append_right _ _ (by rw [h.flat_len]; omega), h.flat_len, Nat.add_sub_cancel_left, hu] at this
  exact this

/-- words put behind those of the last frame: w': behind the append -/
theorem Inv.put_set {g cap : Nat} {v' : Value} {news : List Int} (h : Inv own w1 w R D pS lS (.slice (some ⟨g, 0, none⟩) (F.length + 1) cap) vT vC fuel ((f, v) :: F) l data told C)
    (hg : w.grownBy w' v.ownBlock) (hn : v'.ownBlock = v.ownBlock ∨ v'.ownBlock = some w.heap.size) (ho : w'.ownsRow 0 3 1 v' (f.words.length + news.length) (ints f.words ++ ints news)) :
    Inv (also own w.heap.size (6, F.length)) w1 (w'.setCell ⟨g, F.length * 12 + 10, none⟩ v') R D pS lS (.slice (some ⟨g, 0, none⟩) (F.length + 1) cap) vT vC fuel (({ f with words := f.words ++ news }, v') :: F) [] data told C := by
  have hW := h.rooms.1.1.owned
  have m := Moves.grown (t := (6, F.length)) hW.tag hg
  have hf := h.frames.moves m (by simp)
  have hO : Owned (also own w.heap.size (6, F.length)) w' 3 1 v' (f.words ++ news).length (ints (f.words ++ news)) (6, F.length) := ⟨by simpa [ints] using ho, also_tag hW.tag hn⟩
  simp only [List.length_cons] at hf
  have m2 := Moves.setCell (also own w.heap.size (6, F.length)) w' g (F.length * 12 + 10) v' (hf.tag g rfl)
  refine ⟨(h.base.moves m (by simp)).moves m2 (by decide), (h.run.moves m (by simp)).moves m2 (by decide), (h.dat.moves m (by simp)).moves m2 (by decide), ?_, (h.told.moves m (by simp)).moves m2 (by decide), (h.calls.moves m (by simp)).moves m2 (by decide),
    ⟨⟨(WordsAt.of hO).moves m2 (fun e => by simp at e), h.rooms.1.2⟩, Rooms.moves m2 (Rooms.moves m h.rooms.2 (fun k hk e => by simp at e; omega)) (fun k _ e => by simp at e)⟩, (h.notes.moves m (fun k _ e => by simp at e)).moves m2 (fun k _ e => by simp at e)⟩
  have := hf.set (F.length * 12 + 10) v'
  have e : (frCells f v).set 10 v' = frCells { f with words := f.words ++ news } v' := by
    have h8 := h.rooms.1.2
    simp only [frCells, List.set_cons_succ]
    rw [List.set_append_right _ _ (by simp [ints, h8]), ints_length, h8]
    rfl
  rw [flat, List.set_append_right _ _ (by rw [h.flat_len]; omega), h.flat_len, Nat.add_sub_cancel_left, e] at this
  exact this

/-- one word more is told: w': behind the append -/
theorem Inv.told_set {v' : Value} {n : Int} (h : Inv own w1 w R D pS lS vF vT vC fuel F l data told C)
    (hg : w.grownBy w' vT.ownBlock) (hn : v'.ownBlock = vT.ownBlock ∨ v'.ownBlock = some w.heap.size) (ho : w'.ownsRow 0 3 1 v' (told.length + 1) (ints told ++ [.int .i64 n])) :
    Inv (also own w.heap.size (4, 0)) w1 (w'.setCell ⟨R, 6, none⟩ v') R D pS lS vF v' vC fuel F l data (told ++ [n]) C := by
  have m := Moves.grown (t := (4, 0)) h.told.tag hg
  have hO : Owned (also own w.heap.size (4, 0)) w' 3 1 v' (told ++ [n]).length (ints (told ++ [n])) (4, 0) := ⟨by simpa [ints] using ho, also_tag h.told.tag hn⟩
  have hr := h.run.moves m (by decide)
  have m2 := Moves.setCell (also own w.heap.size (4, 0)) w' R 6 v' hr.tag
  exact ⟨(h.base.moves m (by decide)).moves m2 (by decide), hr.set 6 v', (h.dat.moves m (by decide)).moves m2 (by decide), (h.frames.moves m (by decide)).moves m2 (by decide), hO.moves m2 (by decide), (h.calls.moves m (by decide)).moves m2 (by decide),
    (h.rooms.moves m (fun k _ e => by simp at e)).moves m2 (fun k _ e => by simp at e), (h.notes.moves m (fun k _ e => by simp at e)).moves m2 (fun k _ e => by simp at e)⟩

/-- a frame more: w': behind the append -/
theorem Inv.enter_set {v' : Value} {g : Fr} (h : Inv own w1 w R D pS lS vF vT vC fuel F l data told C) (hgw : g.words = []) (hgl : g.locals.length = 8)
    (hg : w.grownBy w' vF.ownBlock) (hn : v'.ownBlock = vF.ownBlock ∨ v'.ownBlock = some w.heap.size) (ho : w'.ownsRow 0 85 12 v' (F.length + 1) (flat F ++ frCells g (.slice none 0 0))) :
    Inv (also own w.heap.size (3, 0)) w1 (w'.setCell ⟨R, 2, none⟩ v') R D pS lS v' vT vC fuel ((g, .slice none 0 0) :: F) [] data told C := by
  have m := Moves.grown (t := (3, 0)) h.frames.tag hg
  have hO : Owned (also own w.heap.size (3, 0)) w' 85 12 v' ((g, Value.slice none 0 0) :: F).length (flat ((g, .slice none 0 0) :: F)) (3, 0) := ⟨ho, also_tag h.frames.tag hn⟩
  have hr := h.run.moves m (by decide)
  have m2 := Moves.setCell (also own w.heap.size (3, 0)) w' R 2 v' hr.tag
  exact ⟨(h.base.moves m (by decide)).moves m2 (by decide), hr.set 2 v', (h.dat.moves m (by decide)).moves m2 (by decide), hO.moves m2 (by decide), (h.told.moves m (by decide)).moves m2 (by decide), (h.calls.moves m (by decide)).moves m2 (by decide),
    ⟨⟨.inl ⟨rfl, hgw, rfl⟩, hgl⟩, ((h.rooms.rooms.moves m (fun k _ e => by simp at e)).moves m2 (fun k _ e => by simp at e))⟩, (h.notes.moves m (fun k _ e => by simp at e)).moves m2 (fun k _ e => by simp at e)⟩

/-- a word of the data -/
theorem Inv.data_set {k : Nat} {x : Int} (h : Inv own w1 w R D pS lS vF vT vC fuel F l data told C) :
    Inv own w1 (w.setCell ⟨D, k, none⟩ (.int .i64 x)) R D pS lS vF vT vC fuel F l (data.set k x) told C := by
  have m := Moves.setCell own w D k (.int .i64 x) (h.dat.tag D rfl)
  refine ⟨h.base.moves m (by decide), ?_, ?_, h.frames.moves m (by decide), h.told.moves m (by decide), h.calls.moves m (by decide),
    h.rooms.moves m (fun k _ e => by simp at e), h.notes.moves m (fun k _ e => by simp at e)⟩
  · rw [List.length_set]
    exact h.run.moves m (by decide)
  · have := h.dat.set k (.int .i64 x)
    rw [List.length_set]
    have e : (ints data).set k (.int .i64 x) = ints (data.set k x) := by simp [ints]
    rw [← e]
    exact this

/-- new memory alone -/
theorem Moves.below {own own' : Nat → Tag} {w w' : World} (h : Below w.heap.size w w') (ht : ∀ k, k < w.heap.size → own' k = own k) (t : Tag) : Moves own own' w w' t :=
  ⟨h.os, h.tape, h.output, h.size, fun k hk _ => h.block k hk, ht⟩

theorem recCells_length (r : Rec) (v : Value) : (recCells r v).length = 7 := rfl
theorem flatC_cons (p : Rec × Value) (C : List (Rec × Value)) : flatC (p :: C) = recCells p.1 p.2 ++ flatC C := rfl
theorem flatC_append (C C' : List (Rec × Value)) : flatC (C ++ C') = flatC C ++ flatC C' := by simp [flatC]
theorem flatC_length : ∀ C : List (Rec × Value), (flatC C).length = C.length * 7
  | [] => rfl
  | p :: C => by rw [flatC_cons, List.length_append, recCells_length, flatC_length C, List.length_cons]; omega

theorem flatC_set {j : Nat} (hj : j < 7) {u : Value} : ∀ {C : List (Rec × Value)} {k : Nat} {r r' : Rec} {v v' : Value}, C[k]? = some (r, v) → (recCells r v).set j u = recCells r' v' → (flatC C).set (k * 7 + j) u = flatC (C.set k (r', v'))
  | [], k, r, r', v, v', h, _ => by simp at h
  | p :: C, 0, r, r', v, v', h, hs => by
    simp only [List.getElem?_cons_zero, Option.some.injEq] at h
    subst h
    rw [flatC_cons, List.set_append_left _ _ (by rw [recCells_length]; omega), List.set_cons_zero, flatC_cons, Nat.zero_mul, Nat.zero_add, hs]
  | p :: C, k + 1, r, r', v, v', h, hs => by
    rw [List.getElem?_cons_succ] at h
    rw [flatC_cons, List.set_append_right _ _ (by rw [recCells_length]; omega), recCells_length, show (k + 1) * 7 + j - 7 = k * 7 + j by omega, flatC_set hj h hs, List.set_cons_succ, flatC_cons]

theorem flatC_at {j : Nat} (hj : j < 7) : ∀ {C : List (Rec × Value)} {k : Nat} {r : Rec} {v : Value}, C[k]? = some (r, v) → (flatC C)[k * 7 + j]? = (recCells r v)[j]?
  | [], k, r, v, h => by simp at h
  | p :: C, 0, r, v, h => by
    simp only [List.getElem?_cons_zero, Option.some.injEq] at h
    subst h
    rw [flatC_cons, List.getElem?_append_left (by rw [recCells_length]; omega), Nat.zero_mul, Nat.zero_add]
  | p :: C, k + 1, r, v, h => by
    rw [List.getElem?_cons_succ] at h
    rw [flatC_cons, List.getElem?_append_right (by rw [recCells_length]; omega), recCells_length, show (k + 1) * 7 + j - 7 = k * 7 + j by omega, flatC_at hj h]

/-- a call more is noted: w': behind the append; va: the copy of its words -/
theorem Inv.note_set {v' va : Value} {r : Rec} (h : Inv own w1 w R D pS lS vF vT vC fuel F l data told C) (ha : Owned own w 3 1 va r.args.length (ints r.args) (7, C.length))
    (hg : w.grownBy w' vC.ownBlock) (hn : v'.ownBlock = vC.ownBlock ∨ v'.ownBlock = some w.heap.size) (ho : w'.ownsRow 0 76 7 v' (C.length + 1) (flatC C ++ recCells r va)) :
    Inv (also own w.heap.size (5, 0)) w1 (w'.setCell ⟨R, 8, none⟩ v') R D pS lS vF vT v' fuel F l data told (C ++ [(r, va)]) := by
  have m := Moves.grown (t := (5, 0)) h.calls.tag hg
  have hO : Owned (also own w.heap.size (5, 0)) w' 76 7 v' (C ++ [(r, va)]).length (flatC (C ++ [(r, va)])) (5, 0) := ⟨by rw [flatC_append]; simpa [flatC] using ho, also_tag h.calls.tag hn⟩
  have hr := h.run.moves m (by decide)
  have m2 := Moves.setCell (also own w.heap.size (5, 0)) w' R 8 v' hr.tag
  have ha2 := (ha.moves m (by simp)).moves m2 (by simp)
  have hn2 := (h.notes.moves m (fun k _ e => by simp at e)).moves m2 (fun k _ e => by simp at e)
  refine ⟨(h.base.moves m (by decide)).moves m2 (by decide), hr.set 8 v', (h.dat.moves m (by decide)).moves m2 (by decide), (h.frames.moves m (by decide)).moves m2 (by decide), (h.told.moves m (by decide)).moves m2 (by decide), hO.moves m2 (by decide),
    (h.rooms.moves m (fun k _ e => by simp at e)).moves m2 (fun k _ e => by simp at e), fun k r' v'' hk => ?_⟩
  by_cases hlt : k < C.length
  · rw [List.getElem?_append_left hlt] at hk
    exact hn2 k r' v'' hk
  · have h1 := (List.getElem?_eq_some_iff.1 hk).1
    simp only [List.length_append, List.length_cons, List.length_nil] at h1
    obtain rfl : k = C.length := by omega
    simp only [List.getElem?_concat_length, Option.some.injEq, Prod.mk.injEq] at hk
    obtain ⟨rfl, rfl⟩ := hk
    exact ha2

/-- a call that was noted is done -/
theorem Inv.calls_set {g cap k j : Nat} {r r' : Rec} {va u : Value} (h : Inv own w1 w R D pS lS vF vT (.slice (some ⟨g, 0, none⟩) C.length cap) fuel F l data told C) (hk : C[k]? = some (r, va)) (hj : j < 7) (hu : (recCells r va).set j u = recCells r' va) (hr : r'.args = r.args) :
    Inv own w1 (w.setCell ⟨g, k * 7 + j, none⟩ u) R D pS lS vF vT (.slice (some ⟨g, 0, none⟩) C.length cap) fuel F l data told (C.set k (r', va)) := by
  have m := Moves.setCell own w g (k * 7 + j) u (h.calls.tag g rfl)
  have hn := h.notes.moves m (fun k _ e => by simp at e)
  refine ⟨h.base.moves m (by decide), h.run.moves m (by decide), h.dat.moves m (by decide), h.frames.moves m (by decide), h.told.moves m (by decide), ?_, h.rooms.moves m (fun k _ e => by simp at e), fun i r'' v'' hi => ?_⟩
  · have := h.calls.set (k * 7 + j) u
    rw [flatC_set hj hk hu] at this
    rw [List.length_set]
    exact this
  · by_cases e : k = i
    · subst e
      rw [List.getElem?_set_self (List.getElem?_eq_some_iff.1 hk).1] at hi
      simp only [Option.some.injEq, Prod.mk.injEq] at hi
      obtain ⟨rfl, rfl⟩ := hi
      rw [hr]
      exact hn k r va hk
    · rw [List.getElem?_set_ne e] at hi
      exact hn i r'' v'' hi

/-- the last frame is gone -/
theorem Inv.pop_set {g cap : Nat} (h : Inv own w1 w R D pS lS (.slice (some ⟨g, 0, none⟩) (F.length + 1) cap) vT vC fuel ((f, v) :: F) l data told C) :
    Inv own w1 (w.setCell ⟨R, 2, none⟩ (.slice (some ⟨g, 0, none⟩) F.length cap)) R D pS lS (.slice (some ⟨g, 0, none⟩) F.length cap) vT vC fuel F [] data told C := by
  have hf := h.frames
  simp only [List.length_cons] at hf
  have hO : Owned own w 85 12 (.slice (some ⟨g, 0, none⟩) F.length cap) F.length (flat F) (3, 0) := ⟨ownsRow_pop h.flat_len hf.row, hf.tag⟩
  have m := Moves.setCell own w R 2 (.slice (some ⟨g, 0, none⟩) F.length cap) h.run.tag
  exact ⟨h.base.moves m (by decide), h.run.set 2 _, h.dat.moves m (by decide), hO.moves m (by decide), h.told.moves m (by decide), h.calls.moves m (by decide),
    (Rooms.moves m h.rooms.2 (fun k _ e => by simp at e)).pend, h.notes.moves m (fun k _ e => by simp at e)⟩

/-- a run that has ended, with a value -/
structure Fin (own : Nat → Tag) (w1 w : World) (R D : Nat) (pS lS vT vC : Value) (val : Int) (data told : List Int) (C : List (Rec × Value)) : Prop where
  base : Base own w1 w R D
  run : ∃ fv fu, Block own w R #[pS, lS, fv, fu, .int .i64 0, .int .i64 val, vT, .slice (some ⟨D, 0, none⟩) data.length data.length, vC] 68 (1, 0)
  dat : Owned own w 3 1 (.slice (some ⟨D, 0, none⟩) data.length data.length) data.length (ints data) (2, 0)
  told : Owned own w 3 1 vT told.length (ints told) (4, 0)
  calls : Owned own w 76 7 vC C.length (flatC C) (5, 0)
  notes : Notes own w C

theorem Inv.fin (h : Inv own w1 w R D pS lS vF vT vC fuel F l data told C) : Fin own w1 w R D pS lS vT vC 0 data told C := ⟨h.base, ⟨_, _, h.run⟩, h.dat, h.told, h.calls, h.notes⟩

theorem Inv.fin_set (h : Inv own w1 w R D pS lS vF vT vC fuel F l data told C) (x : Int) : Fin own w1 (w.setCell ⟨R, 5, none⟩ (.int .i64 x)) R D pS lS vT vC x data told C := by
  have m := Moves.setCell own w R 5 (.int .i64 x) h.run.tag
  exact ⟨h.base.moves m (by decide), ⟨_, _, h.run.set 5 _⟩, h.dat.moves m (by decide), h.told.moves m (by decide), h.calls.moves m (by decide), h.notes.moves m (fun k _ e => by simp at e)⟩
end
end Go.Proofs.YtmbbkabecipkaacDoor.Inv

namespace Go.Proofs.YtmbbkabecipkaacDoor.Frame
open Go.RowKit Tab Go.Proofs.YtmbbkabecipkaacDoor.Check Lists Img Mach Own Go.Proofs.YtmbbkabecipkaacDoor.Inv

theorem last (R g n k cap : Nat) (w : World) (hk : n - 1 = k) (hn : 0 < n) (hnc : n ≤ 20) (c : w.cell? ⟨R, 2, none⟩ = some (.slice (some ⟨g, 0, none⟩) n cap)) :
    Calls Tryd.prog 36 #[.pointer (some ⟨R, 0, none⟩)] w fun e w' => e = .returned (.pointer (some ⟨g, k * 12, none⟩)) ∧ ∃ j, w' = w.drewN j := by
  subst hk
  have hnI : (0 : Int) < n := by omega
  have hnJ : (n : Int) ≤ 20 := by omega
  go_enter Tryd.func36, Tryd.ntmps36
  go_wp2
  go_quiet (fail)
  go_wp2
  go_ret
  exact ⟨rfl, _, rfl⟩

theorem takes (op a b c : Int) (w : World) (h1 : 1 ≤ op) (h15 : op ≤ 15) (hb : 0 ≤ b) (hc : 0 ≤ c) :
    Calls Tryd.prog 38 #[.agg #[.int .i64 op, .int .i64 a, .int .i64 b, .int .i64 c]] w fun e w' => e = .returned (.int .i64 (needs op b c)) ∧ Below w.heap.size w w' := by
  have eb : ((b.toNat : Nat) : Int) = b := by omega
  have ec : ((c.toNat : Nat) : Int) = c := by omega
  rcases (show op = 1 ∨ op = 2 ∨ op = 3 ∨ op = 4 ∨ op = 5 ∨ op = 6 ∨ op = 7 ∨ op = 8 ∨ op = 9 ∨ op = 10 ∨ op = 11 ∨ op = 12 ∨ op = 13 ∨ op = 14 ∨ op = 15 by omega) with rfl | rfl | rfl | rfl | rfl | rfl | rfl | rfl | rfl | rfl | rfl | rfl | rfl | rfl | rfl
  all_goals
    have EB : Hid _ := eb
    have EC : Hid _ := ec
    clear eb ec
    go_enter Tryd.func38, Tryd.ntmps38
    go_wp2
    go_ret
    exact ⟨by simp [needs, EB.out, EC.out], below1 _ _⟩

theorem look_ok (k dlen b0 b1 D : Nat) (lo hi : Int) (w : World) (h0 : w.cell? ⟨b0, 2, none⟩ = some (.int .i64 lo)) (h1 : w.cell? ⟨b0, 3, none⟩ = some (.int .i64 hi))
    (h2 : w.cell? ⟨b1, 0, none⟩ = some (.slice (some ⟨D, 0, none⟩) dlen dlen)) (c0 : lo ≤ k) (c1 : (k : Int) < hi) (c2 : (k : Int) < dlen) :
    Calls Tryd.prog 45 #[.int .i64 k, .pointer (some ⟨b0, 0, none⟩), .pointer (some ⟨b1, 0, none⟩)] w fun e w' => e = .returned (.pointer (some ⟨D, k, none⟩)) ∧ w' = w := by
  go_enter Tryd.func45, Tryd.ntmps45
  go_wp2
  go_ret
  exact ⟨rfl, rfl⟩

theorem look_edge (t lo hi : Int) (b0 : Nat) (v : Value) (w : World) (h0 : w.cell? ⟨b0, 2, none⟩ = some (.int .i64 lo)) (h1 : w.cell? ⟨b0, 3, none⟩ = some (.int .i64 hi)) (c : ¬ (lo ≤ t ∧ t < hi)) :
    Calls Tryd.prog 45 #[.int .i64 t, .pointer (some ⟨b0, 0, none⟩), v] w fun e w' => e = .returned (.pointer none) ∧ w' = w := by
  rcases (show t < lo ∨ (lo ≤ t ∧ hi ≤ t) by omega) with c0 | ⟨c0, c1⟩
  all_goals
    clear c
    go_enter Tryd.func45, Tryd.ntmps45
    go_wp2
    go_ret
    exact ⟨rfl, rfl⟩

theorem words_form {own : Nat → Tag} {w : World} {v : Value} {ws l : List Int} {t : Tag} (h : WordsAt own w v ws l t) : ∃ ao cp, v = .slice ao ws.length cp ∧ (ao = none → ws = [] ∧ cp = 0) ∧ (∀ a, ao = some a → ∃ g, a = ⟨g, 0, none⟩ ∧ own g = t) ∧ ws.length ≤ cp ∧ cp ≤ maxLen := by
  rcases h with ⟨h, h', _⟩ | ⟨g, cap, cur, hv, ht, _, h1, h2, _⟩
  · subst h h'
    exact ⟨none, 0, rfl, fun _ => ⟨rfl, rfl⟩, fun a ha => (by cases ha), Nat.le_refl _, (by unfold maxLen; omega)⟩
  · exact ⟨_, _, hv, fun h => (by cases h), fun a ha => ⟨g, (Option.some.inj ha).symm, ht⟩, by omega, h2⟩

section
variable {own : Nat → Tag} {w1 w : World} {R D g cap : Nat} {pS lS vT vC : Value} {fuel : Int} {f : Fr} {v : Value} {F : List (Fr × Value)} {l data told : List Int} {C : List (Rec × Value)}

theorem put_full (h : Inv own w1 w R D pS lS (.slice (some ⟨g, 0, none⟩) (F.length + 1) cap) vT vC fuel ((f, v) :: F) l data told C) (b m : Nat) (hm : m ≤ 2) (hw : f.words.length ≤ 40) (hf : ¬ f.words.length + m ≤ 40) :
    Calls Tryd.prog 46 #[.pointer (some ⟨g, F.length * 12, none⟩), .slice (some ⟨b, 0, none⟩) m m] w fun e w' => e = .returned (.int .i64 4) ∧ w' = w := by
  have c10 := h.top_cell 10 (u := v) (by simp [frCells, ints, h.rooms.1.2])
  obtain ⟨ao, cp, rfl, _, _⟩ := words_form h.rooms.1.1
  have hmI : (m : Int) ≤ 2 := by omega
  have hwI : (f.words.length : Int) ≤ 40 := by omega
  have hfI : (40 : Int) < (f.words.length : Int) + m := by omega
  obtain ⟨n, hn⟩ : ∃ n, n = f.words.length := ⟨_, rfl⟩
  rw [← hn] at c10 hwI hfI
  clear h hw hf hm hn
  go_enter Tryd.func46, Tryd.ntmps46
  go_wp2
  go_ret
  exact ⟨rfl, rfl⟩

set_option maxRecDepth 100000 in
theorem put (h : Inv own w1 w R D pS lS (.slice (some ⟨g, 0, none⟩) (F.length + 1) cap) vT vC fuel ((f, v) :: F) l data told C) (b : Nat) (news : List Int) (hm0 : 0 < news.length) (hm : news.length ≤ 2) (hw : f.words.length ≤ 40) (hf : f.words.length + news.length ≤ 40)
    (hb : ∀ j u, (ints news)[j]? = some u → w.cell? ((⟨b, 0, none⟩ : Addr).add j) = some u) :
    Calls Tryd.prog 46 #[.pointer (some ⟨g, F.length * 12, none⟩), .slice (some ⟨b, 0, none⟩) news.length news.length] w fun e w' => e = .returned (.int .i64 0) ∧ ∃ own' v', Inv own' w1 w' R D pS lS (.slice (some ⟨g, 0, none⟩) (F.length + 1) cap) vT vC fuel (({ f with words := f.words ++ news }, v') :: F) [] data told C := by
  have c10 := h.top_cell 10 (u := v) (by simp [frCells, ints, h.rooms.1.2])
  have z10 := h.top_frozen (F.length * 12 + 10)
  have hO := h.rooms.1.1.owned
  have key := fun v' w' => Inv.put_set (v' := v') (w' := w') (news := news) h
  obtain ⟨ao, cp, rfl, _, _⟩ := words_form h.rooms.1.1
  obtain ⟨i0, hi, hz0, hz1, hz2⟩ := info_parts info3
  have hmI : (news.length : Int) ≤ 2 := by omega
  have hwI : (f.words.length : Int) ≤ 40 := by omega
  have hfI : (f.words.length : Int) + news.length ≤ 40 := by omega
  have hl : (ints news).length = news.length * 1 := by simp [ints]
  have h1 : ∀ u ∈ ints news, u.oneCell' = true := ints_oneCell .i64 news
  have hgf : ∀ w', Moves own (also own w.heap.size (6, F.length)) w w' (6, F.length) → w'.cell? ⟨g, F.length * 12 + 10, none⟩ = some (.slice ao f.words.length cp) ∧ w'.frozen? ⟨g, F.length * 12 + 10, none⟩ = false := by
    intro w' m
    have hbk : w'.heap[g]? = w.heap[g]? := m.block g (h.frames.row.lt g rfl).2 (by rw [h.frames.tag g rfl]; simp)
    exact ⟨(World.cell?_of_block (w := w) (a := ⟨g, F.length * 12 + 10, none⟩) hbk).trans c10, (World.frozen?_of_block (w := w) (a := ⟨g, F.length * 12 + 10, none⟩) hbk).trans z10⟩
  obtain ⟨n, hn⟩ : ∃ n, n = f.words.length := ⟨_, rfl⟩
  obtain ⟨m, hmm⟩ : ∃ m, m = news.length := ⟨_, rfl⟩
  rw [← hmm] at hm0 hm hmI hfI hf hl ⊢
  rw [← hn] at c10 hwI hfI hO hw hf hgf key
  have KEY : Hid _ := key
  have HM : Hid _ := hmm
  have HO : Hid _ := hO
  have HGF : Hid _ := hgf
  have HB : Hid _ := hb
  have HL : Hid _ := hl
  have H1 : Hid _ := h1
  clear h key hn hmm hO hgf hb hl h1
  go_enter Tryd.func46, Tryd.ntmps46
  go_wp2_with (at_builtin; refine wpList_append_fresh _ rfl (.tmp 18) (.tmp 19) 29 rfl 0 3 i0 (.int .i64 0) 1 8 Tryd.underlying29 hi hz0 hz1 hz2 rfl (by decide) (.slice ao n cp) n (ints f.words) rfl HO.out.row ⟨b, 0, none⟩ m m hm0 (ints news) rfl HL.out HB.out H1.out (by unfold maxLen; omega) (by omega) (Nat.zero_le _) ?_; intro g' c' w' ho hg hn'; obtain ⟨q0, q1⟩ := HGF.out w' (Moves.grown HO.out.tag hg); have HNN : Hid _ := hn'; have HOO : Hid _ := ho; clear hn' ho)
  go_ret
  exact ⟨rfl, _, _, KEY.out _ _ hg HNN.out (by rw [← HM.out]; exact HOO.out)⟩
end
end Go.Proofs.YtmbbkabecipkaacDoor.Frame

namespace Go.Proofs.YtmbbkabecipkaacDoor.Take
open Go.RowKit Tab Go.Proofs.YtmbbkabecipkaacDoor.Check Lists Img Mach Own Go.Proofs.YtmbbkabecipkaacDoor.Inv Go.Proofs.YtmbbkabecipkaacDoor.Frame

section
variable {own : Nat → Tag} {w1 w : World} {R D g cap : Nat} {pS lS vF vT vC : Value} {fuel : Int} {f : Fr} {v : Value} {F : List (Fr × Value)} {l data told : List Int} {C : List (Rec × Value)}

theorem take_few (h : Inv own w1 w R D pS lS (.slice (some ⟨g, 0, none⟩) (F.length + 1) cap) vT vC fuel ((f, v) :: F) l data told C) (m : Nat) (hm : m ≤ 4) (hw : f.words.length ≤ 40) (hf : ¬ m ≤ f.words.length) :
    Calls Tryd.prog 37 #[.pointer (some ⟨g, F.length * 12, none⟩), .int .i64 m] w fun e w' => e = .returned (.tuple #[.slice none 0 0, .bool false]) ∧ w' = w := by
  have c10 := h.top_cell 10 (u := v) (by simp [frCells, ints, h.rooms.1.2])
  obtain ⟨ao, cp, rfl, _, _⟩ := words_form h.rooms.1.1
  have hmI : (m : Int) ≤ 4 := by omega
  have hwI : (f.words.length : Int) ≤ 40 := by omega
  have hfI : (f.words.length : Int) < m := by omega
  obtain ⟨n, hn⟩ : ∃ n, n = f.words.length := ⟨_, rfl⟩
  rw [← hn] at c10 hwI hfI
  clear h hw hf hm hn
  go_enter Tryd.func37, Tryd.ntmps37
  go_wp2
  go_ret2
  exact ⟨rfl, rfl⟩

theorem frCells_words {f : Fr} {v : Value} (h : f.locals.length = 8) (ws : List Int) (v' : Value) : (frCells f v).set 10 v' = frCells { f with words := ws } v' := by
  simp only [frCells, List.set_cons_succ]
  rw [List.set_append_right _ _ (by simp [ints, h]), ints_length, h]
  rfl

set_option maxRecDepth 100000 in
theorem take (h : Inv own w1 w R D pS lS (.slice (some ⟨g, 0, none⟩) (F.length + 1) cap) vT vC fuel ((f, v) :: F) [] data told C) (m : Nat) (hm : m ≤ 4) (hw : f.words.length ≤ 40) (hf : m ≤ f.words.length) :
    Calls Tryd.prog 37 #[.pointer (some ⟨g, F.length * 12, none⟩), .int .i64 m] w fun e w' => ∃ tv, e = .returned (.tuple #[tv, .bool true]) ∧ ∃ v', Cut v' tv m ∧ Inv own w1 w' R D pS lS (.slice (some ⟨g, 0, none⟩) (F.length + 1) cap) vT vC fuel (({ f with words := f.words.take (f.words.length - m) }, v') :: F) (f.words.drop (f.words.length - m)) data told C := by
  have c10 := h.top_cell 10 (u := v) (by simp [frCells, ints, h.rooms.1.2])
  have z10 := h.top_frozen (F.length * 12 + 10)
  have hW := h.rooms.1.1
  have h8 := h.rooms.1.2
  have key := fun v' hv => h.top_set (f' := { f with words := f.words.take (f.words.length - m) }) (v' := v') (l' := f.words.drop (f.words.length - m)) 10 v' (frCells_words h8 _ _) ⟨hW.take m hf hv, h8⟩
  rcases hW with ⟨rfl, hn, _⟩ | ⟨gw, cp, cur, rfl, ht, hg, h1, h2, h3, h4⟩
  · have m0 : m = 0 := by rw [hn] at hf; simpa using hf
    subst m0
    have KEY : Hid _ := key
    clear h key hn hf hm hw
    go_enter Tryd.func37, Tryd.ntmps37
    go_wp2
    go_ret2
    exact ⟨_, rfl, _, ⟨none, 0, rfl, fun h => absurd h (by omega)⟩, (by simpa using (KEY.out (.slice none 0 0) ⟨fun _ => rfl, fun g cap e => by cases e⟩))⟩
  · have hmI : (m : Int) ≤ 4 := by omega
    have hwI : (f.words.length : Int) ≤ 40 := by omega
    have hfI : (m : Int) ≤ f.words.length := by omega
    have h1' : f.words.length ≤ cp := by simpa using h1
    have hcI : (f.words.length : Int) ≤ cp := by omega
    have h2I : (cp : Int) ≤ 9223372036854775807 := by unfold maxLen at h2; omega
    obtain ⟨n, hn⟩ : ∃ n, n = f.words.length := ⟨_, rfl⟩
    have HN : Hid _ := hn
    have em' : n - (n - m) = m := by omega
    rw [← hn] at c10 hwI hfI hcI h1' hf
    have KEY : Hid _ := key
    have em : Hid (n - (n - m) = m) := em'
    clear h key hn hm hw hg h1 h3 h4 ht h2 h8 em'
    go_enter Tryd.func37, Tryd.ntmps37
    go_wp2
    · go_ret2
      have m0 : m = 0 := by omega
      refine ⟨_, rfl, _, ⟨some ⟨gw, 0, none⟩, 0, by rw [em.out]; rfl, fun h => absurd h (by omega)⟩, KEY.out _ ⟨fun e => (by cases e), fun g cap e => ?_⟩⟩
      simp only [Value.slice.injEq, Option.some.injEq, Addr.mk.injEq] at e
      obtain ⟨⟨rfl, _⟩, _, rfl⟩ := e
      rw [show cp = n - m by assumption, HN.out]
    · go_ret2
      refine ⟨_, rfl, _, ⟨some ⟨gw, n - m, none⟩, cp - (n - m), by rw [em.out]; rfl, fun _ => ⟨gw, n - m, cp, rfl, rfl⟩⟩, KEY.out _ ⟨fun e => (by cases e), fun g cap e => ?_⟩⟩
      simp only [Value.slice.injEq, Option.some.injEq, Addr.mk.injEq] at e
      obtain ⟨⟨rfl, _⟩, _, rfl⟩ := e
      rw [HN.out]

theorem one_new {w : World} (n : Int) {t : TypeId} : ∀ (j : Nat) (u : Value), (ints [n])[j]? = some u → (w.alloc (.cells #[.int .i64 n] t)).cell? ((⟨w.heap.size, 0, none⟩ : Addr).add j) = some u := by
  intro j u hj
  match j, hj with
  | 0, hj => simp [ints] at hj; subst hj; simp [Addr.add]
  | j + 1, hj => simp [ints] at hj

theorem tell_long (n : Int) (w : World) (R : Nat) (ao : Option Addr) (cp : Nat) (c : w.cell? ⟨R, 6, none⟩ = some (.slice ao 500 cp)) :
    Calls Tryd.prog 51 #[.pointer (some ⟨R, 0, none⟩), .int .i64 n] w fun e w' => e = .returned (.int .i64 6) ∧ w' = w := by
  go_enter Tryd.func51, Tryd.ntmps51
  go_wp2
  go_ret
  exact ⟨rfl, rfl⟩

theorem owned_form {e : TypeId} {size n : Nat} {v : Value} {xs : List Value} {t : Tag} (h : Owned own w e size v n xs t) : ∃ ao cp, v = .slice ao n cp := by
  rcases h.row.2 with ⟨h0, h1⟩ | ⟨g, cap, cur, hv, _⟩
  · subst h1
    exact ⟨_, _, h0⟩
  · exact ⟨_, _, hv⟩

set_option maxRecDepth 100000 in
theorem tell (h : Inv own w1 w R D pS lS vF vT vC fuel F l data told C) (n : Int) (ht : told.length < 500) :
    Calls Tryd.prog 51 #[.pointer (some ⟨R, 0, none⟩), .int .i64 n] w fun e w' => e = .returned (.int .i64 0) ∧ ∃ own' v', Inv own' w1 w' R D pS lS vF v' vC fuel F l data (told ++ [n]) C := by
  have hI := h.alloc (.cells #[.int .i64 n] 3)
  have c6 := h.run.cell 6 (v := vT) rfl
  have z6 := fun w' (m : Moves own (also own (w.heap.size + 1) (4, 0)) (w.alloc (.cells #[.int .i64 n] 3)) w' (4, 0)) => (hI.run.moves m (by decide)).frozen 6
  have q6 := fun w' (m : Moves own (also own (w.heap.size + 1) (4, 0)) (w.alloc (.cells #[.int .i64 n] 3)) w' (4, 0)) => (hI.run.moves m (by decide)).cell 6 (v := vT) rfl
  have key := fun v' w' => Inv.told_set (v' := v') (w' := w') (n := n) hI
  have hO := hI.told
  obtain ⟨ao, cp, rfl⟩ := owned_form h.told
  obtain ⟨i0, hi, hz0, hz1, hz2⟩ := info_parts info3
  have htI : (told.length : Int) < 500 := by omega
  have hne : ((told.length : Int) == 500) = false := by simp; omega
  obtain ⟨k, hk⟩ : ∃ k, k = told.length := ⟨_, rfl⟩
  rw [← hk] at c6 hO htI key ht q6 hne
  have KEY : Hid _ := key
  have HO : Hid _ := hO
  have Q6 : Hid _ := q6
  have Z6 : Hid _ := z6
  have NEW : Hid _ := one_new (w := w) n (t := 3)
  clear h key hk hO q6 z6 hI
  go_enter Tryd.func51, Tryd.ntmps51
  go_wp2_with (at_builtin; refine wpList_append_fresh _ rfl (.tmp 17) (.tmp 19) 29 rfl 0 3 i0 (.int .i64 0) 1 8 Tryd.underlying29 hi hz0 hz1 hz2 rfl (by decide) (.slice ao k cp) k (ints told) rfl HO.out.row ⟨w.heap.size, 0, none⟩ 1 1 (by decide) [.int .i64 n] rfl rfl NEW.out (ints_oneCell .i64 [n]) (by unfold maxLen; omega) (by omega) (Nat.zero_le _) ?_; intro g' c' w' ho hg hn'; have m' := Moves.grown HO.out.tag hg; have q6 := Q6.out w' (by simpa using m'); have z6 := Z6.out w' (by simpa using m'); have HNN : Hid _ := hn'; have HOO : Hid _ := ho; have HGG : Hid _ := hg; clear hn' ho m' hg)
  go_ret
  exact ⟨rfl, _, _, KEY.out _ _ HGG.out HNN.out HOO.out⟩
end
end Go.Proofs.YtmbbkabecipkaacDoor.Take
