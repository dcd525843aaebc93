/-
  LISTS OF INSTRUCTIONS AND OF WORDS: what is gathered up to a place, and the first fault; plain, without a walk.
  Conditions: none.
-/
import Derived.Test.YtmmcpjmgindpkacDoorFault
namespace Go.Proofs.YtmmcpjmgindpkacDoor.Lists
open Go.RowKit Tab Go.Proofs.YtmmcpjmgindpkacDoor.Check

/-- the first that is not 0 among the first n -/
def first (f : Nat → Int) : Nat → Int
  | 0 => 0
  | n + 1 => if first f n = 0 then f n else first f n

/-- the words of the first n instructions -/
def words (o a b c : Nat → Int) : Nat → List Value
  | 0 => []
  | n + 1 => words o a b c n ++ [.int .i64 (o n), .int .i64 (a n), .int .i64 (b n), .int .i64 (c n)]

theorem first_succ {f : Nat → Int} {n : Nat} (h : first f n = 0) : first f (n + 1) = f n := by simp [first, h]

theorem first_stays {f : Nat → Int} {k n : Nat} (hk : k ≤ n) (h : first f k ≠ 0) : first f n = first f k := by
  induction n with
  | zero => obtain rfl : k = 0 := by omega
            rfl
  | succ n ih =>
    by_cases hkn : k = n + 1
    · rw [hkn]
    · have := ih (by omega)
      simp [first, this, h]

theorem first_stops {f : Nat → Int} {k n : Nat} (hk : k < n) (h : first f k = 0) (hf : f k ≠ 0) : first f n = f k := by
  have h1 := first_succ h
  rw [first_stays (k := k + 1) (by omega) (by rw [h1]; exact hf), h1]

theorem Lies_below {w w' : World} (h : Lies w) (hb : Below w.heap.size w w') : Lies w' := by
  intro k hk
  obtain ⟨t0, t1, t2, t3⟩ := h k hk
  have h0 := World.block_lt_of_cell? w _ t0
  exact ⟨(hb.cell h0).trans t0, (hb.cell (p := ⟨0, k * 4 + 1, none⟩) h0).trans t1, (hb.cell (p := ⟨0, k * 4 + 2, none⟩) h0).trans t2, (hb.cell (p := ⟨0, k * 4 + 3, none⟩) h0).trans t3⟩

/-- a new block of four cells, read in a later world -/
theorem box4 {w w' : World} {v0 v1 v2 v3 : Value} {t : TypeId} (hb : Below (w.alloc (.cells #[v0, v1, v2, v3] t)).heap.size (w.alloc (.cells #[v0, v1, v2, v3] t)) w') :
    w'.cell? ⟨w.heap.size, 0, none⟩ = some v0 ∧ w'.cell? ⟨w.heap.size, 1, none⟩ = some v1 ∧ w'.cell? ⟨w.heap.size, 2, none⟩ = some v2 ∧ w'.cell? ⟨w.heap.size, 3, none⟩ = some v3 := by
  have h : ∀ i : Nat, (⟨w.heap.size, i, none⟩ : Addr).block < (w.alloc (.cells #[v0, v1, v2, v3] t)).heap.size := fun i => by simp
  exact ⟨(hb.cell (h 0)).trans (by simp), (hb.cell (h 1)).trans (by simp), (hb.cell (h 2)).trans (by simp), (hb.cell (h 3)).trans (by simp)⟩

/-- what the call owns stays its own where nothing below is turned -/
theorem owns_below {w w' : World} {base : Nat} {e : TypeId} {size n : Nat} {v : Value} {xs : List Value} (h : w.ownsRow base e size v n xs) (hb : Below w.heap.size w w') : w'.ownsRow base e size v n xs :=
  h.kept (row := none) ⟨hb.os, hb.tape, hb.output, hb.size, fun k hk _ => hb.block k hk⟩ (by cases hv : v.ownBlock <;> simp)

/-- four cells lie at an address -/
theorem four_news {w : World} {v0 v1 v2 v3 : Value} {t : TypeId} : ∀ (j : Nat) (u : Value), [v0, v1, v2, v3][j]? = some u → (w.alloc (.cells #[v0, v1, v2, v3] t)).cell? ((⟨w.heap.size, 0, none⟩ : Addr).add j) = some u := by
  intro j u hj
  match j, hj with
  | 0, hj => simp at hj; subst hj; simp [Addr.add]
  | 1, hj => simp at hj; subst hj; simp [Addr.add]
  | 2, hj => simp at hj; subst hj; simp [Addr.add]
  | 3, hj => simp at hj; subst hj; simp [Addr.add]

theorem four_one {x0 x1 x2 x3 : Int} : ∀ u ∈ [Value.int .i64 x0, .int .i64 x1, .int .i64 x2, .int .i64 x3], u.oneCell' = true := by
  intro u hu
  simp at hu
  rcases hu with rfl | rfl | rfl | rfl <;> rfl

theorem info3 : (Tryd.prog.info? 3).map (fun i => (i.zero, i.size, i.bytes)) = some (some (.int .i64 0), 1, 8) := by kernel_rfl

/-- a list of instructions that was handed in lies there: its first len -/
def Instrs (w : World) (ao : Option Addr) (len : Nat) (o a b c : Nat → Int) : Prop :=
  ∀ k, k < len → ∃ bl off, ao = some ⟨bl, off, none⟩ ∧ w.cell? ⟨bl, off + k * 4, none⟩ = some (.int .i64 (o k)) ∧ w.cell? ⟨bl, off + k * 4 + 1, none⟩ = some (.int .i64 (a k)) ∧
    w.cell? ⟨bl, off + k * 4 + 2, none⟩ = some (.int .i64 (b k)) ∧ w.cell? ⟨bl, off + k * 4 + 3, none⟩ = some (.int .i64 (c k))

end Go.Proofs.YtmmcpjmgindpkacDoor.Lists
