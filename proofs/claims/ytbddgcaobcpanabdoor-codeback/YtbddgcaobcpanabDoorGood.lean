/-
  LISTS OF INSTRUCTIONS THAT MAY BE, as they are gathered: plain, without a walk.
  Conditions: none.
-/
import Derived.Test.YtbddgcaobcpanabDoorParts
namespace Go.Proofs.YtbddgcaobcpanabDoor.Good
open Go.RowKit Tab Go.Proofs.YtbddgcaobcpanabDoor.Check Lists

/-- an instruction's four numbers -/
abbrev Q := Int × Int × Int × Int

def cellsOf (q : Q) : List Value := [.int .i64 q.1, .int .i64 q.2.1, .int .i64 q.2.2.1, .int .i64 q.2.2.2]

def flat : List Q → List Value
  | [] => []
  | q :: r => cellsOf q ++ flat r

theorem flat_append (l m : List Q) : flat (l ++ m) = flat l ++ flat m := by
  induction l with
  | nil => rfl
  | cons q r ih => simp [flat, ih]

theorem flat_length (l : List Q) : (flat l).length = l.length * 4 := by
  induction l with
  | nil => rfl
  | cons q r ih => simp [flat, cellsOf, ih]; omega

theorem flat_one (l : List Q) : ∀ u ∈ flat l, u.oneCell' = true := by
  induction l with
  | nil => intro u hu; simp [flat] at hu
  | cons q r ih =>
    intro u hu
    simp only [flat, cellsOf, List.mem_append, List.mem_cons, List.not_mem_nil, or_false] at hu
    rcases hu with (rfl | rfl | rfl | rfl) | hu
    · rfl
    · rfl
    · rfl
    · rfl
    · exact ih u hu

/-- each of them may be -/
def Ok (l : List Q) : Prop := ∀ q ∈ l, fault q.1 q.2.1 q.2.2.1 q.2.2.2 = 0

theorem Ok_nil : Ok [] := fun q h => by cases h

theorem Ok_append {l m : List Q} (h : Ok l) (k : Ok m) : Ok (l ++ m) := fun q hq => (List.mem_append.1 hq).elim (h q) (k q)

theorem Ok_cons {q : Q} {m : List Q} (h : fault q.1 q.2.1 q.2.2.1 q.2.2.2 = 0) (k : Ok m) : Ok (q :: m) := fun x hx => by
  rcases List.mem_cons.1 hx with rfl | hx
  · exact h
  · exact k x hx

theorem push_ok (n : Int) (h : 0 ≤ n) (h' : n ≤ 65535) : fault 1 n 0 0 = 0 := by simp [fault, row, rows]; omega
theorem get_ok (n : Int) (h : 0 ≤ n) (h' : n ≤ 7) : fault 4 n 0 0 = 0 := by simp [fault, row, rows]; omega
theorem put_ok (n : Int) (h : 0 ≤ n) (h' : n ≤ 7) : fault 5 n 0 0 = 0 := by simp [fault, row, rows]; omega
theorem do_ok (n : Int) (h : 1 ≤ n) (h' : n ≤ 10) : fault 8 n 0 0 = 0 := by simp [fault, row, rows]; omega
theorem jz_ok (n : Int) (h : 0 ≤ n) (h' : n ≤ 1199) : fault 10 n 0 0 = 0 := by simp [fault, row, rows]; omega
theorem load_ok : fault 6 0 0 0 = 0 := by decide
theorem store_ok : fault 7 0 0 0 = 0 := by decide
theorem ret_ok : fault 13 0 0 0 = 0 := by decide
theorem bare_ok (n : Int) (h : 1 ≤ n) (h' : n ≤ 15) (h8 : n ≠ 8) : fault n 0 0 0 = 0 := by
  rcases (show n = 1 ∨ n = 2 ∨ n = 3 ∨ n = 4 ∨ n = 5 ∨ n = 6 ∨ n = 7 ∨ n = 9 ∨ n = 10 ∨ n = 11 ∨ n = 12 ∨ n = 13 ∨ n = 14 ∨ n = 15 by omega) with rfl | rfl | rfl | rfl | rfl | rfl | rfl | rfl | rfl | rfl | rfl | rfl | rfl | rfl <;> decide

/-- what may be is made of words -/
theorem words_of_ok {a b c d : Int} (h : fault a b c d = 0) : (1 ≤ a ∧ a ≤ 15) ∧ (0 ≤ b ∧ b ≤ 65535) ∧ (0 ≤ c ∧ c ≤ 65535) ∧ (0 ≤ d ∧ d ≤ 65535) := by
  unfold fault at h
  split at h
  · rename_i ha
    split at h
    · rename_i hb
      refine ⟨ha, ?_⟩
      rcases (show a = 1 ∨ a = 2 ∨ a = 3 ∨ a = 4 ∨ a = 5 ∨ a = 6 ∨ a = 7 ∨ a = 8 ∨ a = 9 ∨ a = 10 ∨ a = 11 ∨ a = 12 ∨ a = 13 ∨ a = 14 ∨ a = 15 by omega) with rfl | rfl | rfl | rfl | rfl | rfl | rfl | rfl | rfl | rfl | rfl | rfl | rfl | rfl | rfl
      all_goals
        simp [row, rows] at hb
        omega
    · cases h
  · cases h

/-- cells that lie in a new block, read by their places -/
theorem news_at {w : World} {l : List Value} {t : TypeId} : ∀ (j : Nat) (u : Value), l[j]? = some u → (w.alloc (.cells l.toArray t)).cell? ((⟨w.heap.size, 0, none⟩ : Addr).add j) = some u := by
  intro j u hu
  rw [Go.WideShapes.add_plain, Nat.zero_add, World.cell?_alloc_new]
  simpa using hu

theorem news_at2 {w : World} {o : Obj} {l : List Value} {t : TypeId} : ∀ (j : Nat) (u : Value), l[j]? = some u → ((w.alloc o).alloc (.cells l.toArray t)).cell? ((⟨w.heap.size + 1, 0, none⟩ : Addr).add j) = some u := by
  intro j u hu
  have h := news_at (w := w.alloc o) (t := t) j u hu
  rw [show (w.alloc o).heap.size = w.heap.size + 1 by simp] at h
  exact h

/-- the list of raw things that was handed in lies there: its first len -/
def Raws (w : World) (ao : Option Addr) (len : Nat) (x : Nat → Q) : Prop :=
  ∀ k, k < len → (∃ bl off, ao = some ⟨bl, off, none⟩ ∧ w.cell? ⟨bl, off + k * 4, none⟩ = some (.int .i64 (x k).1) ∧ w.cell? ⟨bl, off + k * 4 + 1, none⟩ = some (.int .i64 (x k).2.1) ∧
    w.cell? ⟨bl, off + k * 4 + 2, none⟩ = some (.int .i64 (x k).2.2.1) ∧ w.cell? ⟨bl, off + k * 4 + 3, none⟩ = some (.int .i64 (x k).2.2.2)) ∧
    (Lit.int .i64 (x k).1).wf = true ∧ (Lit.int .i64 (x k).2.1).wf = true ∧ (Lit.int .i64 (x k).2.2.1).wf = true ∧ (Lit.int .i64 (x k).2.2.2).wf = true

theorem info38 : (Tryd.prog.info? 38).map (fun i => (i.zero, i.size, i.bytes)) = some (some (.agg #[.int .i64 0, .int .i64 0, .int .i64 0, .int .i64 0]), 4, 32) := by kernel_rfl
end Go.Proofs.YtbddgcaobcpanabDoor.Good
