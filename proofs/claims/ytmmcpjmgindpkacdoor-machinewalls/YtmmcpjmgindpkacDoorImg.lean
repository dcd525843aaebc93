/-
  PARTS AND IMAGES: what is refused of them (P3.1, P3.2), and how they lie in memory; plain, without a walk.
  Conditions: none.
-/
import Derived.Test.YtmmcpjmgindpkacDoorRead
namespace Go.Proofs.YtmmcpjmgindpkacDoor.Img
open Go.RowKit Tab Go.Proofs.YtmmcpjmgindpkacDoor.Check Lists Go.Proofs.YtmmcpjmgindpkacDoor.Read

/-- a part: where its code and its entries lie, what they are, and where its words begin and end -/
structure PartD where
  ca : Option Addr
  cl : Nat
  cc : Nat
  o : Nat → Int
  a : Nat → Int
  b : Nat → Int
  c : Nat → Int
  ea : Option Addr
  el : Nat
  ec : Nat
  ats : Nat → Int
  prs : Nat → Int
  lo : Int
  hi : Int

/-- what is refused of its code -/
def codeFault (p : PartD) : Int := first (fun k => fault (p.o k) (p.a k) (p.b k) (p.c k)) p.cl
/-- what is refused of an entry of code with n places -/
def entryFault (n : Nat) (t r : Int) : Int := if (0 ≤ t ∧ t < n) ∧ (0 ≤ r ∧ r ≤ 4) then 0 else 2
def entriesFault (p : PartD) : Int := first (fun k => entryFault p.cl (p.ats k) (p.prs k)) p.el
/-- P3.1, of a part whose words have to begin at a place -/
def partFault (p : PartD) (start : Int) : Int :=
  if p.cl ≤ 1200 ∧ p.el ≤ 8 then
    if codeFault p = 0 then
      if entriesFault p = 0 then
        if p.lo = start ∧ p.lo ≤ p.hi ∧ p.hi ≤ 250 then 0 else 8
      else entriesFault p
    else codeFault p
  else 1
/-- where the words of the part k have to begin: the To of the part ahead -/
def begins (P : Nat → PartD) : Nat → Int
  | 0 => 0
  | k + 1 => (P k).hi
/-- P3.1 -/
def imageFault (P : Nat → PartD) (len : Nat) : Int := if len ≤ 5 then first (fun k => partFault (P k) (begins P k)) len else 1

/-- entries lie there -/
def Entries (w : World) (ao : Option Addr) (len : Nat) (t r : Nat → Int) : Prop :=
  ∀ k, k < len → ∃ bl off, ao = some ⟨bl, off, none⟩ ∧ w.cell? ⟨bl, off + k * 2, none⟩ = some (.int .i64 (t k)) ∧ w.cell? ⟨bl, off + k * 2 + 1, none⟩ = some (.int .i64 (r k))

/-- what a part names lies there -/
def PartLies (w : World) (p : PartD) : Prop := Instrs w p.ca p.cl p.o p.a p.b p.c ∧ Entries w p.ea p.el p.ats p.prs

/-- the parts of an image lie there -/
def Parts (w : World) (ao : Option Addr) (len : Nat) (P : Nat → PartD) : Prop :=
  ∀ k, k < len → (∃ bl off, ao = some ⟨bl, off, none⟩ ∧ w.cell? ⟨bl, off + k * 4, none⟩ = some (.slice (P k).ca (P k).cl (P k).cc) ∧ w.cell? ⟨bl, off + k * 4 + 1, none⟩ = some (.slice (P k).ea (P k).el (P k).ec) ∧
    w.cell? ⟨bl, off + k * 4 + 2, none⟩ = some (.int .i64 (P k).lo) ∧ w.cell? ⟨bl, off + k * 4 + 3, none⟩ = some (.int .i64 (P k).hi)) ∧ PartLies w (P k)

theorem Instrs_below {w w' : World} {ao : Option Addr} {len : Nat} {o a b c : Nat → Int} (h : Instrs w ao len o a b c) (hb : Below w.heap.size w w') : Instrs w' ao len o a b c := by
  intro k hk
  obtain ⟨bl, off, e, t0, t1, t2, t3⟩ := h k hk
  have h0 := World.block_lt_of_cell? w _ t0
  exact ⟨bl, off, e, (hb.cell h0).trans t0, (hb.cell (p := ⟨bl, off + k * 4 + 1, none⟩) h0).trans t1, (hb.cell (p := ⟨bl, off + k * 4 + 2, none⟩) h0).trans t2, (hb.cell (p := ⟨bl, off + k * 4 + 3, none⟩) h0).trans t3⟩

theorem Entries_below {w w' : World} {ao : Option Addr} {len : Nat} {t r : Nat → Int} (h : Entries w ao len t r) (hb : Below w.heap.size w w') : Entries w' ao len t r := by
  intro k hk
  obtain ⟨bl, off, e, t0, t1⟩ := h k hk
  have h0 := World.block_lt_of_cell? w _ t0
  exact ⟨bl, off, e, (hb.cell h0).trans t0, (hb.cell (p := ⟨bl, off + k * 2 + 1, none⟩) h0).trans t1⟩

theorem PartLies_below {w w' : World} {p : PartD} (h : PartLies w p) (hb : Below w.heap.size w w') : PartLies w' p := ⟨Instrs_below h.1 hb, Entries_below h.2 hb⟩

theorem Parts_below {w w' : World} {ao : Option Addr} {len : Nat} {P : Nat → PartD} (h : Parts w ao len P) (hb : Below w.heap.size w w') : Parts w' ao len P := by
  intro k hk
  obtain ⟨⟨bl, off, e, t0, t1, t2, t3⟩, hp⟩ := h k hk
  have h0 := World.block_lt_of_cell? w _ t0
  exact ⟨⟨bl, off, e, (hb.cell h0).trans t0, (hb.cell (p := ⟨bl, off + k * 4 + 1, none⟩) h0).trans t1, (hb.cell (p := ⟨bl, off + k * 4 + 2, none⟩) h0).trans t2, (hb.cell (p := ⟨bl, off + k * 4 + 3, none⟩) h0).trans t3⟩, PartLies_below hp hb⟩

theorem box1 {w w' : World} {v0 : Value} {t : TypeId} (hb : Below (w.alloc (.cells #[v0] t)).heap.size (w.alloc (.cells #[v0] t)) w') : w'.cell? ⟨w.heap.size, 0, none⟩ = some v0 :=
  (hb.cell (show (⟨w.heap.size, 0, none⟩ : Addr).block < _ by simp)).trans (by simp)

/-- the place of each part, once for all -/
theorem Parts_at {w : World} {ao : Option Addr} {len : Nat} {P : Nat → PartD} (h : Parts w ao len P) {k : Nat} (hk : k < len) : ∃ bl off, ao = some ⟨bl, off, none⟩ ∧ bl < w.heap.size ∧ w.cell? ⟨bl, off + k * 4, none⟩ = some (.slice (P k).ca (P k).cl (P k).cc) ∧
    w.cell? ⟨bl, off + k * 4 + 1, none⟩ = some (.slice (P k).ea (P k).el (P k).ec) ∧ w.cell? ⟨bl, off + k * 4 + 2, none⟩ = some (.int .i64 (P k).lo) ∧ w.cell? ⟨bl, off + k * 4 + 3, none⟩ = some (.int .i64 (P k).hi) := by
  obtain ⟨⟨bl, off, e, t0, t⟩, _⟩ := h k hk
  exact ⟨bl, off, e, World.block_lt_of_cell? w _ t0, t0, t⟩

/-- P3.2: what is refused of the words of an image -/
def wordFault (n : Int) : Int := if 0 ≤ n ∧ n ≤ 65535 then 0 else 2
def dataFault (P : Nat → PartD) (len : Nat) (z : Nat → Int) (dlen : Nat) : Int :=
  if imageFault P len = 0 then
    if (dlen : Int) = begins P len then first (fun k => wordFault (z k)) dlen else 4
  else imageFault P len
/-- P3.3 -/
def ownFault (P : Nat → PartD) (len : Nat) (z : Nat → Int) (dlen : Nat) (p t : Int) : Int :=
  if dataFault P len z dlen = 0 then
    if 0 ≤ p ∧ p < len then
      if (P p.toNat).lo ≤ t ∧ t < (P p.toNat).hi then 0 else 9
    else 5
  else dataFault P len z dlen

theorem first_zero {f : Nat → Int} {n : Nat} (h : first f n = 0) : ∀ k, k < n → f k = 0 := by
  intro k hk
  have h1 : first f (k + 1) = 0 := by
    by_cases h2 : first f (k + 1) = 0
    · exact h2
    · rw [← first_stays (n := n) (by omega) h2]; exact h
  have h0 : first f k = 0 := by
    by_cases h2 : first f k = 0
    · exact h2
    · rw [← first_stays (n := k + 1) (by omega) h2]; exact h1
  rw [← first_succ h0]; exact h1

theorem partFault_zero {p : PartD} {s : Int} (h : partFault p s = 0) : p.lo = s ∧ p.lo ≤ p.hi ∧ p.hi ≤ 250 := by
  unfold partFault at h
  split at h
  · split at h
    · split at h
      · split at h
        · assumption
        · cases h
      · contradiction
    · contradiction
  · cases h

/-- of an image that may be: the words of a part lie from 0 to the To of the last one -/
theorem begins_mono {P : Nat → PartD} {len : Nat} (h : first (fun k => partFault (P k) (begins P k)) len = 0) : ∀ k, k ≤ len → 0 ≤ begins P k ∧ begins P k ≤ begins P len ∧ begins P len ≤ 250 := by
  have hz := first_zero h
  have up : ∀ k, k ≤ len → 0 ≤ begins P k ∧ begins P k ≤ 250 := by
    intro k
    induction k with
    | zero => intro _; simp [begins]
    | succ k ih =>
      intro hk
      have h1 := ih (by omega)
      have h2 := partFault_zero (hz k (by omega))
      simp only [begins]
      omega
  have down : ∀ d, d ≤ len → begins P (len - d) ≤ begins P len := by
    intro d
    induction d with
    | zero => intro _; simp
    | succ d ih =>
      intro hd
      have h1 := ih (by omega)
      have h2 := partFault_zero (hz (len - (d + 1)) (by omega))
      have h3 : begins P (len - d) = (P (len - (d + 1))).hi := by
        rw [show len - d = (len - (d + 1)) + 1 by omega]
        rfl
      omega
  intro k hk
  refine ⟨(up k hk).1, ?_, (up len (Nat.le_refl _)).2⟩
  have := down (len - k) (by omega)
  rwa [show len - (len - k) = k by omega] at this

theorem dataFault_zero {P : Nat → PartD} {len : Nat} {z : Nat → Int} {dlen : Nat} (h : dataFault P len z dlen = 0) : imageFault P len = 0 ∧ (dlen : Int) = begins P len ∧ first (fun k => wordFault (z k)) dlen = 0 := by
  unfold dataFault at h
  split at h
  · split at h
    · exact ⟨by assumption, by assumption, h⟩
    · cases h
  · contradiction

theorem imageFault_zero {P : Nat → PartD} {len : Nat} (h : imageFault P len = 0) : len ≤ 5 ∧ first (fun k => partFault (P k) (begins P k)) len = 0 := by
  unfold imageFault at h
  split at h
  · exact ⟨by assumption, h⟩
  · cases h

/-- the words of a part are words of the data -/
theorem inside {P : Nat → PartD} {len : Nat} {z : Nat → Int} {dlen : Nat} (h : dataFault P len z dlen = 0) {k : Nat} (hk : k < len) : 0 ≤ (P k).lo ∧ (P k).hi ≤ dlen ∧ dlen ≤ 250 := by
  obtain ⟨h1, h2, _⟩ := dataFault_zero h
  have h3 := (imageFault_zero h1).2
  have h4 := begins_mono h3 k (by omega)
  have h5 : (P k).hi ≤ begins P len := (begins_mono h3 (k + 1) (by omega)).2.1
  have h6 := partFault_zero (first_zero h3 k hk)
  omega
end Go.Proofs.YtmmcpjmgindpkacDoor.Img
