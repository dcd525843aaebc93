/-
  THE MACHINE OF P4, PLAIN: frames, a step, a run with so much fuel; no Go in sight.
  Conditions: none.
-/
import Derived.Test.YtmmcpjmgindpkacDoorImg
namespace Go.Proofs.YtmmcpjmgindpkacDoor.Mach
open Go.RowKit Tab Img

/-- a frame: its part, its place, its locals, its words (the last one last), and which call that was noted it came by -/
structure Fr where
  part : Nat
  pc : Nat
  locals : List Int
  words : List Int
  noted : Option Nat

/-- a call that was noted -/
structure Rec where
  by_ : Nat
  part : Nat
  entry : Nat
  args : List Int
  deep : Nat
  done : Bool
  value : Int

/-- a run: its frames (the last one FIRST), its data, what was told, the calls that were noted -/
structure St where
  rooms : List Fr
  data : List Int
  told : List Int
  calls : List Rec

/-- how many words an instruction takes -/
def needs (op b c : Int) : Nat :=
  if op = 2 ∨ op = 3 ∨ op = 5 ∨ op = 6 ∨ op = 10 ∨ op = 13 ∨ op = 14 then 1
  else if op = 7 ∨ op = 8 then 2
  else if op = 11 then b.toNat
  else if op = 12 then c.toNat
  else 0

/-- locals of a frame that was called with words -/
def pad (l : List Int) : List Int := (l ++ List.replicate 8 0).take 8

/-- the run ends -/
def ends (e v : Int) (s : St) : (Int × Int × St) ⊕ St := .inl (e, v, s)

/-- words are put behind those of a frame -/
def puts (s : St) (f : Fr) (rest : List Fr) (back : List Int) : (Int × Int × St) ⊕ St :=
  if f.words.length + back.length ≤ 40 then .inr { s with rooms := { f with words := f.words ++ back } :: rest } else ends 4 0 s

/-- a frame more -/
def enter (s : St) (f : Fr) (rest : List Fr) (g : Fr) : (Int × Int × St) ⊕ St :=
  if rest.length + 1 < 20 then .inr { s with rooms := g :: f :: rest } else ends 5 0 s

/-- P4.3 to P4.5: what an instruction does; f: its frame, its place one more and its last words l taken -/
def act (wdo : Int → Int → Int → Int) (P : Nat → PartD) (len : Nat) (s : St) (f : Fr) (rest : List Fr) (op a b c : Int) (l : List Int) : (Int × Int × St) ⊕ St :=
  if op = 1 then puts s f rest [a]
  else if op = 2 then puts s f rest []
  else if op = 3 then puts s f rest [l.getD 0 0, l.getD 0 0]
  else if op = 4 then puts s f rest [f.locals.getD a.toNat 0]
  else if op = 5 then puts s { f with locals := f.locals.set a.toNat (l.getD 0 0) } rest []
  else if op = 6 then if (P f.part).lo ≤ l.getD 0 0 ∧ l.getD 0 0 < (P f.part).hi then puts s f rest [s.data.getD (l.getD 0 0).toNat 0] else ends 4 0 s
  else if op = 7 then if (P f.part).lo ≤ l.getD 0 0 ∧ l.getD 0 0 < (P f.part).hi then puts { s with data := s.data.set (l.getD 0 0).toNat (l.getD 1 0) } f rest [] else ends 4 0 s
  else if op = 8 then puts s f rest [wdo a (l.getD 0 0) (l.getD 1 0)]
  else if op = 9 then puts s { f with pc := a.toNat } rest []
  else if op = 10 then puts s (if l.getD 0 0 = 0 then { f with pc := a.toNat } else f) rest []
  else if op = 11 then enter s f rest { part := f.part, pc := a.toNat, locals := pad l, words := [], noted := none }
  else if op = 12 then
    if a < len ∧ b < (P a.toNat).el ∧ (P a.toNat).prs b.toNat = c then
      if s.calls.length < 100 then
        enter { s with calls := s.calls ++ [{ by_ := f.part, part := a.toNat, entry := b.toNat, args := l, deep := rest.length + 1, done := false, value := 0 }] } f rest
          { part := a.toNat, pc := ((P a.toNat).ats b.toNat).toNat, locals := pad l, words := [], noted := some s.calls.length }
      else enter s f rest { part := a.toNat, pc := ((P a.toNat).ats b.toNat).toNat, locals := pad l, words := [], noted := none }
    else ends 4 0 s
  else if op = 13 then
    let s' : St := match f.noted with
      | none => s
      | some k => { s with calls := s.calls.modify k fun r => { r with done := true, value := l.getD 0 0 } }
    match rest with
    | [] => ends 1 (l.getD 0 0) s'
    | g :: rest' => puts s' g rest' [l.getD 0 0]
  else if op = 14 then if s.told.length < 500 then puts { s with told := s.told ++ [l.getD 0 0] } f rest [] else ends 6 0 s
  else ends 2 0 s

/-- P4.2: a step -/
def step (wdo : Int → Int → Int → Int) (P : Nat → PartD) (len : Nat) (s : St) : (Int × Int × St) ⊕ St :=
  match s.rooms with
  | [] => ends 1 0 s
  | f :: rest =>
    let p := P f.part
    if f.pc < p.cl then
      let n := needs (p.o f.pc) (p.b f.pc) (p.c f.pc)
      if n ≤ f.words.length then
        act wdo P len s { f with pc := f.pc + 1, words := f.words.take (f.words.length - n) } rest (p.o f.pc) (p.a f.pc) (p.b f.pc) (p.c f.pc) (f.words.drop (f.words.length - n))
      else ends 4 0 s
    else ends 4 0 s

/-- P4.1: a run with so much fuel: how it ends, its value, and what it left -/
def run (wdo : Int → Int → Int → Int) (P : Nat → PartD) (len : Nat) : Nat → St → Int × Int × St
  | 0, s => (3, 0, s)
  | n + 1, s =>
    match step wdo P len s with
    | .inl r => r
    | .inr s' => run wdo P len n s'

theorem run_next {wdo : Int → Int → Int → Int} {P : Nat → PartD} {len n : Nat} {s s' : St} (h : step wdo P len s = .inr s') : run wdo P len (n + 1) s = run wdo P len n s' := by rw [run, h]
theorem run_ends {wdo : Int → Int → Int → Int} {P : Nat → PartD} {len n : Nat} {s : St} {r : Int × Int × St} (h : step wdo P len s = .inl r) : run wdo P len (n + 1) s = r := by rw [run, h]

/-- a part's code out of a list -/
def code (l : List (Int × Int × Int × Int)) (p : PartD) : Prop :=
  p.cl = l.length ∧ ∀ k, k < l.length → p.o k = (l.getD k (0, 0, 0, 0)).1 ∧ p.a k = (l.getD k (0, 0, 0, 0)).2.1 ∧ p.b k = (l.getD k (0, 0, 0, 0)).2.2.1 ∧ p.c k = (l.getD k (0, 0, 0, 0)).2.2.2

/-- the first frame of the second part, at its first place -/
def start (data : List Int) : St := ⟨[⟨1, 0, List.replicate 8 0, [], none⟩], data, [], []⟩

/-- a step at a place of known code, whatever is behind the frame -/
theorem step_at {wdo : Int → Int → Int → Int} {P : Nat → PartD} {len : Nat} {l : List (Int × Int × Int × Int)} (h : code l (P 1)) {k : Nat} {lo ws : List Int} {nt : Option Nat} {rest : List Fr} {d t : List Int} {cs : List Rec} {op a b c : Int}
    (hk : l[k]? = some (op, a, b, c)) (hn : needs op b c ≤ ws.length) :
    step wdo P len ⟨⟨1, k, lo, ws, nt⟩ :: rest, d, t, cs⟩ = act wdo P len ⟨⟨1, k, lo, ws, nt⟩ :: rest, d, t, cs⟩ ⟨1, k + 1, lo, ws.take (ws.length - needs op b c), nt⟩ rest op a b c (ws.drop (ws.length - needs op b c)) := by
  have hl : k < l.length := (List.getElem?_eq_some_iff.1 hk).1
  obtain ⟨e0, e1, e2, e3⟩ := h.2 k hl
  rw [List.getD_eq_getElem?_getD, hk] at e0 e1 e2 e3
  simp only [Option.getD_some] at e0 e1 e2 e3
  simp only [step, h.1, e0, e1, e2, e3, if_pos hl, if_pos hn]

theorem does (wdo : Int → Int → Int → Int) (P : Nat → PartD) (len : Nat) (x y k : Int) (h : code [(1, x, 0, 0), (1, y, 0, 0), (8, k, 0, 0), (3, 0, 0, 0), (14, 0, 0, 0), (13, 0, 0, 0)] (P 1)) (d : List Int) :
    ∃ s, run wdo P len 100 (start d) = (1, wdo k x y, s) ∧ s.told = [wdo k x y] := by
  have s0 : step wdo P len (start d) = .inr ⟨[⟨1, 1, List.replicate 8 0, [x], none⟩], d, [], []⟩ := (step_at h (k := 0) rfl (by simp [needs])).trans (by simp [act, needs, puts])
  have s1 : step wdo P len ⟨[⟨1, 1, List.replicate 8 0, [x], none⟩], d, [], []⟩ = .inr ⟨[⟨1, 2, List.replicate 8 0, [x, y], none⟩], d, [], []⟩ := (step_at h (k := 1) rfl (by simp [needs])).trans (by simp [act, needs, puts])
  have s2 : step wdo P len ⟨[⟨1, 2, List.replicate 8 0, [x, y], none⟩], d, [], []⟩ = .inr ⟨[⟨1, 3, List.replicate 8 0, [wdo k x y], none⟩], d, [], []⟩ := (step_at h (k := 2) rfl (by simp [needs])).trans (by simp [act, needs, puts])
  have s3 : step wdo P len ⟨[⟨1, 3, List.replicate 8 0, [wdo k x y], none⟩], d, [], []⟩ = .inr ⟨[⟨1, 4, List.replicate 8 0, [wdo k x y, wdo k x y], none⟩], d, [], []⟩ := (step_at h (k := 3) rfl (by simp [needs])).trans (by simp [act, needs, puts])
  have s4 : step wdo P len ⟨[⟨1, 4, List.replicate 8 0, [wdo k x y, wdo k x y], none⟩], d, [], []⟩ = .inr ⟨[⟨1, 5, List.replicate 8 0, [wdo k x y], none⟩], d, [wdo k x y], []⟩ := (step_at h (k := 4) rfl (by simp [needs])).trans (by simp [act, needs, puts])
  have s5 : step wdo P len ⟨[⟨1, 5, List.replicate 8 0, [wdo k x y], none⟩], d, [wdo k x y], []⟩ = .inl (1, wdo k x y, ⟨[⟨1, 5, List.replicate 8 0, [wdo k x y], none⟩], d, [wdo k x y], []⟩) := (step_at h (k := 5) rfl (by simp [needs])).trans (by simp [act, needs, ends])
  exact ⟨_, (run_next s0).trans ((run_next s1).trans ((run_next s2).trans ((run_next s3).trans ((run_next s4).trans (run_ends s5))))), rfl⟩

/-- the code that goes round k times -/
def looping (k : Int) : List (Int × Int × Int × Int) := [(1, k, 0, 0), (5, 0, 0, 0), (4, 0, 0, 0), (10, 9, 0, 0), (4, 0, 0, 0), (1, 1, 0, 0), (8, 2, 0, 0), (5, 0, 0, 0), (9, 2, 0, 0), (1, 7, 0, 0), (13, 0, 0, 0)]

/-- a run of known steps -/
def seven (k : Int) : List Int := k :: List.replicate 7 0

theorem head_steps (wdo : Int → Int → Int → Int) (P : Nat → PartD) (len : Nat) (k : Int) (h : code (looping k) (P 1)) (d : List Int) :
    step wdo P len (start d) = .inr ⟨[⟨1, 1, seven 0, [k], none⟩], d, [], []⟩ ∧
    step wdo P len ⟨[⟨1, 1, seven 0, [k], none⟩], d, [], []⟩ = .inr ⟨[⟨1, 2, seven k, [], none⟩], d, [], []⟩ :=
  ⟨(step_at h (k := 0) rfl (by simp [needs])).trans (by simp [act, needs, puts]; rfl), (step_at h (k := 1) rfl (by simp [needs])).trans (by simp [act, needs, puts, seven])⟩

/-- once round: seven steps, and one less -/
theorem round_steps (wdo : Int → Int → Int → Int) (P : Nat → PartD) (len : Nat) (k m : Int) (hm : m ≠ 0) (h : code (looping k) (P 1)) (d : List Int) :
    step wdo P len ⟨[⟨1, 2, seven m, [], none⟩], d, [], []⟩ = .inr ⟨[⟨1, 3, seven m, [m], none⟩], d, [], []⟩ ∧
    step wdo P len ⟨[⟨1, 3, seven m, [m], none⟩], d, [], []⟩ = .inr ⟨[⟨1, 4, seven m, [], none⟩], d, [], []⟩ ∧
    step wdo P len ⟨[⟨1, 4, seven m, [], none⟩], d, [], []⟩ = .inr ⟨[⟨1, 5, seven m, [m], none⟩], d, [], []⟩ ∧
    step wdo P len ⟨[⟨1, 5, seven m, [m], none⟩], d, [], []⟩ = .inr ⟨[⟨1, 6, seven m, [m, 1], none⟩], d, [], []⟩ ∧
    step wdo P len ⟨[⟨1, 6, seven m, [m, 1], none⟩], d, [], []⟩ = .inr ⟨[⟨1, 7, seven m, [wdo 2 m 1], none⟩], d, [], []⟩ ∧
    step wdo P len ⟨[⟨1, 7, seven m, [wdo 2 m 1], none⟩], d, [], []⟩ = .inr ⟨[⟨1, 8, seven (wdo 2 m 1), [], none⟩], d, [], []⟩ ∧
    step wdo P len ⟨[⟨1, 8, seven (wdo 2 m 1), [], none⟩], d, [], []⟩ = .inr ⟨[⟨1, 2, seven (wdo 2 m 1), [], none⟩], d, [], []⟩ :=
  ⟨(step_at h (k := 2) rfl (by simp [needs])).trans (by simp [act, needs, puts, seven]), (step_at h (k := 3) rfl (by simp [needs])).trans (by simp [act, needs, puts, hm]),
   (step_at h (k := 4) rfl (by simp [needs])).trans (by simp [act, needs, puts, seven]), (step_at h (k := 5) rfl (by simp [needs])).trans (by simp [act, needs, puts]),
   (step_at h (k := 6) rfl (by simp [needs])).trans (by simp [act, needs, puts]), (step_at h (k := 7) rfl (by simp [needs])).trans (by simp [act, needs, puts, seven]),
   (step_at h (k := 8) rfl (by simp [needs])).trans (by simp [act, needs, puts])⟩

theorem last_steps (wdo : Int → Int → Int → Int) (P : Nat → PartD) (len : Nat) (k : Int) (h : code (looping k) (P 1)) (d : List Int) :
    step wdo P len ⟨[⟨1, 2, seven 0, [], none⟩], d, [], []⟩ = .inr ⟨[⟨1, 3, seven 0, [0], none⟩], d, [], []⟩ ∧
    step wdo P len ⟨[⟨1, 3, seven 0, [0], none⟩], d, [], []⟩ = .inr ⟨[⟨1, 9, seven 0, [], none⟩], d, [], []⟩ ∧
    step wdo P len ⟨[⟨1, 9, seven 0, [], none⟩], d, [], []⟩ = .inr ⟨[⟨1, 10, seven 0, [7], none⟩], d, [], []⟩ ∧
    step wdo P len ⟨[⟨1, 10, seven 0, [7], none⟩], d, [], []⟩ = .inl (1, 7, ⟨[⟨1, 10, seven 0, [7], none⟩], d, [], []⟩) :=
  ⟨(step_at h (k := 2) rfl (by simp [needs])).trans (by simp [act, needs, puts, seven]), (step_at h (k := 3) rfl (by simp [needs])).trans (by simp [act, needs, puts]),
   (step_at h (k := 9) rfl (by simp [needs])).trans (by simp [act, needs, puts]), (step_at h (k := 10) rfl (by simp [needs])).trans (by simp [act, needs, ends])⟩

/-- fuel that is too little: the run is spent, whatever it did -/
theorem run_spent {wdo : Int → Int → Int → Int} {P : Nat → PartD} {len : Nat} (f : Nat → St) (n : Nat) (hs : ∀ i, i < n → step wdo P len (f i) = .inr (f (i + 1))) : ∀ m i, m + i ≤ n → run wdo P len m (f i) = (3, 0, f (i + m)) := by
  intro m
  induction m with
  | zero => intro i _; rfl
  | succ m ih =>
    intro i hi
    rw [run_next (hs i (by omega)), ih (i + 1) (by omega), show i + 1 + m = i + (m + 1) by omega]

theorem run_all {wdo : Int → Int → Int → Int} {P : Nat → PartD} {len : Nat} (f : Nat → St) (n : Nat) (hs : ∀ i, i < n → step wdo P len (f i) = .inr (f (i + 1))) {r : Int × Int × St} (he : step wdo P len (f n) = .inl r) : ∀ m i, i ≤ n → n - i < m → run wdo P len m (f i) = r := by
  intro m
  induction m with
  | zero => intro i _ h; omega
  | succ m ih =>
    intro i hi hm
    by_cases e : i = n
    · subst e
      exact run_ends he
    · rw [run_next (hs i (by omega))]
      exact ih (i + 1) (by omega) (by omega)

/-- where the looping code stands behind i steps of a round that begins with m -/
def inRound (wdo : Int → Int → Int → Int) (d : List Int) (m : Int) (i : Nat) : St :=
  if i = 0 then ⟨[⟨1, 2, seven m, [], none⟩], d, [], []⟩
  else if i = 1 then ⟨[⟨1, 3, seven m, [m], none⟩], d, [], []⟩
  else if i = 2 then ⟨[⟨1, 4, seven m, [], none⟩], d, [], []⟩
  else if i = 3 then ⟨[⟨1, 5, seven m, [m], none⟩], d, [], []⟩
  else if i = 4 then ⟨[⟨1, 6, seven m, [m, 1], none⟩], d, [], []⟩
  else if i = 5 then ⟨[⟨1, 7, seven m, [wdo 2 m 1], none⟩], d, [], []⟩
  else ⟨[⟨1, 8, seven (wdo 2 m 1), [], none⟩], d, [], []⟩

def atEnd (d : List Int) (i : Nat) : St :=
  if i = 0 then ⟨[⟨1, 2, seven 0, [], none⟩], d, [], []⟩
  else if i = 1 then ⟨[⟨1, 3, seven 0, [0], none⟩], d, [], []⟩
  else if i = 2 then ⟨[⟨1, 9, seven 0, [], none⟩], d, [], []⟩
  else ⟨[⟨1, 10, seven 0, [7], none⟩], d, [], []⟩

/-- .. behind i steps of the whole -/
def looped (wdo : Int → Int → Int → Int) (d : List Int) (k : Nat) (i : Nat) : St :=
  if i = 0 then start d
  else if i = 1 then ⟨[⟨1, 1, seven 0, [(k : Int)], none⟩], d, [], []⟩
  else if i < 2 + 7 * k then inRound wdo d ((k - (i - 2) / 7 : Nat) : Int) ((i - 2) % 7)
  else atEnd d (i - (2 + 7 * k))

theorem looped_steps (wdo : Int → Int → Int → Int) (hw : ∀ m : Nat, 1 ≤ m → m ≤ 100 → wdo 2 (m : Int) 1 = ((m - 1 : Nat) : Int)) (P : Nat → PartD) (len : Nat) (k : Nat) (hk : k ≤ 100) (h : code (looping k) (P 1)) (d : List Int) :
    (∀ i, i < 2 + 7 * k + 3 → step wdo P len (looped wdo d k i) = .inr (looped wdo d k (i + 1))) ∧ ∃ s, step wdo P len (looped wdo d k (2 + 7 * k + 3)) = .inl (1, 7, s) := by
  obtain ⟨a0, a1⟩ := head_steps wdo P len k h d
  obtain ⟨z0, z1, z2, z3⟩ := last_steps wdo P len k h d
  refine ⟨?_, ?_⟩
  · intro i hi
    by_cases c0 : i = 0
    · subst c0
      simpa [looped] using a0
    by_cases c1 : i = 1
    · subst c1
      rw [looped, if_neg (by decide), if_pos rfl, a1]
      rcases Nat.eq_zero_or_pos k with rfl | hp
      · simp [looped, atEnd]
      · simp [looped, inRound, show 2 < 2 + 7 * k by omega]
    by_cases c2 : i < 2 + 7 * k
    · obtain ⟨q, r, hr, rfl⟩ : ∃ q r, r < 7 ∧ i = 2 + 7 * q + r := ⟨(i - 2) / 7, (i - 2) % 7, by omega, by omega⟩
      have hq : (2 + 7 * q + r - 2) / 7 = q := by omega
      have hq' : (2 + 7 * q + r - 2) % 7 = r := by omega
      have e1 : looped wdo d k (2 + 7 * q + r) = inRound wdo d ((k - q : Nat) : Int) r := by
        rw [looped, if_neg c0, if_neg c1, if_pos c2, hq, hq']
      obtain ⟨b0, b1, b2, b3, b4, b5, b6⟩ := round_steps wdo P len k ((k - q : Nat) : Int) (by omega) h d
      rw [e1]
      by_cases c3 : r = 6
      · subst c3
        have e2 : looped wdo d k (2 + 7 * q + 6 + 1) = ⟨[⟨1, 2, seven (wdo 2 ((k - q : Nat) : Int) 1), [], none⟩], d, [], []⟩ := by
          rw [hw (k - q) (by omega) (by omega)]
          by_cases c4 : 2 + 7 * q + 6 + 1 < 2 + 7 * k
          · rw [looped, if_neg (by omega), if_neg (by omega), if_pos c4, show (2 + 7 * q + 6 + 1 - 2) / 7 = q + 1 by omega, show (2 + 7 * q + 6 + 1 - 2) % 7 = 0 by omega, show k - (q + 1) = k - q - 1 by omega]
            rfl
          · have : k = q + 1 := by omega
            rw [looped, if_neg (by omega), if_neg (by omega), if_neg c4, show 2 + 7 * q + 6 + 1 - (2 + 7 * k) = 0 by omega, show k - q - 1 = 0 by omega]
            rfl
        rw [e2]
        exact b6
      · have e2 : looped wdo d k (2 + 7 * q + r + 1) = inRound wdo d ((k - q : Nat) : Int) (r + 1) := by
          rw [looped, if_neg (by omega), if_neg (by omega), if_pos (by omega), show (2 + 7 * q + r + 1 - 2) / 7 = q by omega, show (2 + 7 * q + r + 1 - 2) % 7 = r + 1 by omega]
        rw [e2]
        rcases (show r = 0 ∨ r = 1 ∨ r = 2 ∨ r = 3 ∨ r = 4 ∨ r = 5 by omega) with rfl | rfl | rfl | rfl | rfl | rfl
        · exact b0
        · exact b1
        · exact b2
        · exact b3
        · exact b4
        · exact b5
    · obtain ⟨j, hj, rfl⟩ : ∃ j, j < 3 ∧ i = 2 + 7 * k + j := ⟨i - (2 + 7 * k), by omega, by omega⟩
      have e1 : looped wdo d k (2 + 7 * k + j) = atEnd d j := by rw [looped, if_neg c0, if_neg c1, if_neg c2, show 2 + 7 * k + j - (2 + 7 * k) = j by omega]
      have e2 : looped wdo d k (2 + 7 * k + j + 1) = atEnd d (j + 1) := by rw [looped, if_neg (by omega), if_neg (by omega), if_neg (by omega), show 2 + 7 * k + j + 1 - (2 + 7 * k) = j + 1 by omega]
      rw [e1, e2]
      rcases (show j = 0 ∨ j = 1 ∨ j = 2 by omega) with rfl | rfl | rfl
      · exact z0
      · exact z1
      · exact z2
  · have e : looped wdo d k (2 + 7 * k + 3) = atEnd d 3 := by rw [looped, if_neg (by omega), if_neg (by omega), if_neg (by omega), show 2 + 7 * k + 3 - (2 + 7 * k) = 3 by omega]
    rw [e]
    exact ⟨_, z3⟩

/-- A LOOP GOES ROUND AS OFTEN AS IT IS TOLD; fuel is a unit a step -/
theorem loops (wdo : Int → Int → Int → Int) (hw : ∀ m : Nat, 1 ≤ m → m ≤ 100 → wdo 2 (m : Int) 1 = ((m - 1 : Nat) : Int)) (P : Nat → PartD) (len : Nat) (k : Nat) (hk : k ≤ 100) (h : code (looping k) (P 1)) (d : List Int) :
    (∃ s, run wdo P len (2 + 7 * k + 2 + 2) (start d) = (1, 7, s)) ∧ ∀ m, m < 2 + 7 * k + 2 + 2 → ∃ s, run wdo P len m (start d) = (3, 0, s) := by
  obtain ⟨hs, s, he⟩ := looped_steps wdo hw P len k hk h d
  have e0 : looped wdo d k 0 = start d := rfl
  rw [← e0]
  exact ⟨⟨s, run_all (looped wdo d k) (2 + 7 * k + 3) hs he _ 0 (by omega) (by omega)⟩, fun m hm => ⟨_, run_spent (looped wdo d k) (2 + 7 * k + 3) hs m 0 (by omega)⟩⟩

/-- it faults, and nothing of it is done -/
def Faults (wdo : Int → Int → Int → Int) (P : Nat → PartD) (len : Nat) (d : List Int) : Prop := ∃ s, run wdo P len 1000 (start d) = (4, 0, s) ∧ s.data = d ∧ s.told = []

/-- WHO TOUCHES OTHERS' WORDS, or enters elsewhere than at an entry, or takes what is not there, faults -/
theorem wall0 (wdo : Int → Int → Int → Int) (P : Nat → PartD) (len : Nat) (x : Int) (h : code [(1, x, 0, 0), (1, 9, 0, 0), (7, 0, 0, 0), (1, 0, 0, 0), (13, 0, 0, 0)] (P 1)) (hx : x < (P 1).lo) (d : List Int) : Faults wdo P len d := by
  have s0 : step wdo P len (start d) = .inr ⟨[⟨1, 1, List.replicate 8 0, [x], none⟩], d, [], []⟩ := (step_at h (k := 0) rfl (by simp [needs])).trans (by simp [act, needs, puts])
  have s1 : step wdo P len ⟨[⟨1, 1, List.replicate 8 0, [x], none⟩], d, [], []⟩ = .inr ⟨[⟨1, 2, List.replicate 8 0, [x, 9], none⟩], d, [], []⟩ := (step_at h (k := 1) rfl (by simp [needs])).trans (by simp [act, needs, puts])
  have s2 : step wdo P len ⟨[⟨1, 2, List.replicate 8 0, [x, 9], none⟩], d, [], []⟩ = .inl (4, 0, ⟨[⟨1, 2, List.replicate 8 0, [x, 9], none⟩], d, [], []⟩) := (step_at h (k := 2) rfl (by simp [needs])).trans (by simp [act, needs, ends]; omega)
  exact ⟨_, (run_next s0).trans ((run_next s1).trans (run_ends s2)), rfl, rfl⟩

theorem wall1 (wdo : Int → Int → Int → Int) (P : Nat → PartD) (len : Nat) (x : Int) (h : code [(1, x, 0, 0), (6, 0, 0, 0), (13, 0, 0, 0)] (P 1)) (hx : ¬ ((P 1).lo ≤ x ∧ x < (P 1).hi)) (d : List Int) : Faults wdo P len d := by
  have s0 : step wdo P len (start d) = .inr ⟨[⟨1, 1, List.replicate 8 0, [x], none⟩], d, [], []⟩ := (step_at h (k := 0) rfl (by simp [needs])).trans (by simp [act, needs, puts])
  have s1 : step wdo P len ⟨[⟨1, 1, List.replicate 8 0, [x], none⟩], d, [], []⟩ = .inl (4, 0, ⟨[⟨1, 1, List.replicate 8 0, [x], none⟩], d, [], []⟩) := (step_at h (k := 1) rfl (by simp [needs])).trans (by simp [act, needs, ends]; omega)
  exact ⟨_, (run_next s0).trans (run_ends s1), rfl, rfl⟩

theorem wall2 (wdo : Int → Int → Int → Int) (P : Nat → PartD) (len : Nat) (a b : Int) (h : code [(12, a, b, 0), (13, 0, 0, 0)] (P 1)) (hx : ¬ (a < len ∧ b < (P a.toNat).el)) (d : List Int) : Faults wdo P len d := by
  have s0 : step wdo P len (start d) = .inl (4, 0, start d) := (step_at h (k := 0) rfl (by simp [needs])).trans (by
    simp only [act, needs, ends, start]
    rw [if_neg (by decide), if_neg (by decide), if_neg (by decide), if_neg (by decide), if_neg (by decide), if_neg (by decide), if_neg (by decide), if_neg (by decide), if_neg (by decide), if_neg (by decide), if_neg (by decide), if_pos True.intro, if_neg (fun hh => hx ⟨hh.1, hh.2.1⟩)])
  exact ⟨_, run_ends s0, rfl, rfl⟩

theorem wall5 (wdo : Int → Int → Int → Int) (P : Nat → PartD) (len : Nat) (h : code [(1, 0, 0, 0), (1, 0, 0, 0), (12, 0, 0, 2), (13, 0, 0, 0)] (P 1)) (hx : (P 0).prs 0 ≠ 2) (d : List Int) : Faults wdo P len d := by
  have s0 : step wdo P len (start d) = .inr ⟨[⟨1, 1, List.replicate 8 0, [0], none⟩], d, [], []⟩ := (step_at h (k := 0) rfl (by simp [needs])).trans (by simp [act, needs, puts])
  have s1 : step wdo P len ⟨[⟨1, 1, List.replicate 8 0, [0], none⟩], d, [], []⟩ = .inr ⟨[⟨1, 2, List.replicate 8 0, [0, 0], none⟩], d, [], []⟩ := (step_at h (k := 1) rfl (by simp [needs])).trans (by simp [act, needs, puts])
  have s2 : step wdo P len ⟨[⟨1, 2, List.replicate 8 0, [0, 0], none⟩], d, [], []⟩ = .inl (4, 0, ⟨[⟨1, 2, List.replicate 8 0, [0, 0], none⟩], d, [], []⟩) := (step_at h (k := 2) rfl (by simp [needs])).trans (by simp [act, ends, hx])
  exact ⟨_, (run_next s0).trans ((run_next s1).trans (run_ends s2)), rfl, rfl⟩

/-- a step at a place where there are too few words -/
theorem step_few {wdo : Int → Int → Int → Int} {P : Nat → PartD} {len : Nat} {l : List (Int × Int × Int × Int)} (h : code l (P 1)) {k : Nat} {lo ws : List Int} {nt : Option Nat} {rest : List Fr} {d t : List Int} {cs : List Rec} {op a b c : Int}
    (hk : l[k]? = some (op, a, b, c)) (hn : ¬ needs op b c ≤ ws.length) :
    step wdo P len ⟨⟨1, k, lo, ws, nt⟩ :: rest, d, t, cs⟩ = .inl (4, 0, ⟨⟨1, k, lo, ws, nt⟩ :: rest, d, t, cs⟩) := by
  have hl : k < l.length := (List.getElem?_eq_some_iff.1 hk).1
  obtain ⟨e0, e1, e2, e3⟩ := h.2 k hl
  rw [List.getD_eq_getElem?_getD, hk] at e0 e1 e2 e3
  simp only [Option.getD_some] at e0 e1 e2 e3
  simp only [step, h.1, e0, e2, e3, if_pos hl, if_neg hn, ends]

/-- a step behind the code -/
theorem step_behind {wdo : Int → Int → Int → Int} {P : Nat → PartD} {len : Nat} {l : List (Int × Int × Int × Int)} (h : code l (P 1)) {k : Nat} {lo ws : List Int} {nt : Option Nat} {rest : List Fr} {d t : List Int} {cs : List Rec} (hk : l.length ≤ k) :
    step wdo P len ⟨⟨1, k, lo, ws, nt⟩ :: rest, d, t, cs⟩ = .inl (4, 0, ⟨⟨1, k, lo, ws, nt⟩ :: rest, d, t, cs⟩) := by
  simp only [step, h.1, if_neg (show ¬ k < l.length by omega), ends]

theorem wall6 (wdo : Int → Int → Int → Int) (P : Nat → PartD) (len : Nat) (op a b c : Int) (r : List (Int × Int × Int × Int)) (h : code ((op, a, b, c) :: r) (P 1)) (hn : 0 < needs op b c) (d : List Int) : Faults wdo P len d :=
  ⟨_, run_ends (step_few h (k := 0) rfl (by simp; omega)), rfl, rfl⟩

theorem wall9 (wdo : Int → Int → Int → Int) (P : Nat → PartD) (len : Nat) (a : Int) (ha : 1 ≤ a) (h : code [(9, a, 0, 0)] (P 1)) (d : List Int) : Faults wdo P len d := by
  have s0 : step wdo P len (start d) = .inr ⟨[⟨1, a.toNat, List.replicate 8 0, [], none⟩], d, [], []⟩ := (step_at h (k := 0) rfl (by simp [needs])).trans (by simp [act, needs, puts])
  exact ⟨_, (run_next s0).trans (run_ends (step_behind h (by simp; omega))), rfl, rfl⟩

/-- where the code stands that puts one word more each time round -/
def heaped (d : List Int) (i : Nat) : St := ⟨[⟨1, i % 2, List.replicate 8 0, List.replicate ((i + 1) / 2) 0, none⟩], d, [], []⟩

theorem wall10 (wdo : Int → Int → Int → Int) (P : Nat → PartD) (len : Nat) (h : code [(1, 0, 0, 0), (9, 0, 0, 0)] (P 1)) (d : List Int) : Faults wdo P len d := by
  have hs : ∀ i, i < 80 → step wdo P len (heaped d i) = .inr (heaped d (i + 1)) := by
    intro i hi
    rcases (show i % 2 = 0 ∨ i % 2 = 1 by omega) with e | e
    · rw [heaped, heaped, e, show (i + 1) % 2 = 1 by omega]
      refine (step_at h (k := 0) rfl (by simp [needs])).trans ?_
      simp [act, needs, puts]
      rw [if_pos (by omega), show (i + 1 + 1) / 2 = (i + 1) / 2 + 1 by omega, List.replicate_succ']
    · rw [heaped, heaped, e, show (i + 1) % 2 = 0 by omega]
      refine (step_at h (k := 1) rfl (by simp [needs])).trans ?_
      simp [act, needs, puts]
      rw [if_pos (by omega), show (i + 1 + 1) / 2 = (i + 1) / 2 by omega]
  have he : step wdo P len (heaped d 80) = .inl (4, 0, heaped d 80) := (step_at h (k := 0) rfl (by simp [needs])).trans (by simp [act, needs, puts, ends, heaped])
  have e0 : heaped d 0 = start d := rfl
  refine ⟨heaped d 80, ?_, rfl, rfl⟩
  rw [← e0]
  exact run_all (heaped d) 80 hs he 1000 0 (by omega) (by omega)
end Go.Proofs.YtmmcpjmgindpkacDoor.Mach
