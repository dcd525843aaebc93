/-
  CODE THAT IS LAID AS A LIST: where it lies, that it may be, and what barbicankeep.run gives of it: what MachineDoes and MachineLoops run.
  Conditions: the table 'code.bounds' lies there, and the code.
-/
import Derived.Test.YtmmcpjmgindpkacDoorKRun
import Derived.RangeFuncBox
namespace Go.Proofs.YtmmcpjmgindpkacDoor.Listed
open Go.RowKit Tab Go.Proofs.YtmmcpjmgindpkacDoor.Check Lists Go.Proofs.YtmmcpjmgindpkacDoor.Read Img Mach Go.Proofs.YtmmcpjmgindpkacDoor.Own Go.Proofs.YtmmcpjmgindpkacDoor.Inv ActQ StepQ MRun Keep KRun

def oL (l : List (Int × Int × Int × Int)) (i : Nat) : Int := (l.getD i (0, 0, 0, 0)).1
def aL (l : List (Int × Int × Int × Int)) (i : Nat) : Int := (l.getD i (0, 0, 0, 0)).2.1
def bL (l : List (Int × Int × Int × Int)) (i : Nat) : Int := (l.getD i (0, 0, 0, 0)).2.2.1
def cL (l : List (Int × Int × Int × Int)) (i : Nat) : Int := (l.getD i (0, 0, 0, 0)).2.2.2

/-- the cells of code -/
def flat (l : List (Int × Int × Int × Int)) : List Value := l.flatMap fun t => [.int .i64 t.1, .int .i64 t.2.1, .int .i64 t.2.2.1, .int .i64 t.2.2.2]

theorem flat_at (l : List (Int × Int × Int × Int)) : ∀ k, k < l.length → (flat l)[k * 4]? = some (.int .i64 (oL l k)) ∧ (flat l)[k * 4 + 1]? = some (.int .i64 (aL l k)) ∧ (flat l)[k * 4 + 2]? = some (.int .i64 (bL l k)) ∧ (flat l)[k * 4 + 3]? = some (.int .i64 (cL l k)) := by
  induction l with
  | nil => intro k hk; simp at hk
  | cons t r ih =>
    intro k hk
    cases k with
    | zero => exact ⟨rfl, rfl, rfl, rfl⟩
    | succ k =>
      obtain ⟨h0, h1, h2, h3⟩ := ih k (by simpa using hk)
      have e : ∀ j, (flat (t :: r))[(k + 1) * 4 + j]? = (flat r)[k * 4 + j]? := fun j => by
        rw [show (k + 1) * 4 + j = k * 4 + j + 1 + 1 + 1 + 1 by omega]
        rfl
      exact ⟨(e 0).trans h0, (e 1).trans h1, (e 2).trans h2, (e 3).trans h3⟩

theorem instrs {W : World} {cb : Nat} {l : List (Int × Int × Int × Int)} (h : W.heap[cb]? = some (.cells (flat l).toArray 27)) : Instrs W (some ⟨cb, 0, none⟩) l.length (oL l) (aL l) (bL l) (cL l) := by
  intro k hk
  obtain ⟨h0, h1, h2, h3⟩ := flat_at l k hk
  refine ⟨cb, 0, rfl, ?_⟩
  rw [Nat.zero_add]
  exact ⟨cell_of_heap h (by simpa using h0), cell_of_heap h (by simpa using h1), cell_of_heap h (by simpa using h2), cell_of_heap h (by simpa using h3)⟩

theorem coded (bb cb nw : Nat) (l : List (Int × Int × Int × Int)) : code l (parts bb cb l.length nw (oL l) (aL l) (bL l) (cL l) 1) := ⟨rfl, fun _ _ => ⟨rfl, rfl, rfl, rfl⟩⟩

theorem quiet_of (bb cb nw : Nat) (l : List (Int × Int × Int × Int)) (h : ∀ k, k < l.length → oL l k ≠ 11 ∧ oL l k ≠ 12) : Quiet (parts bb cb l.length nw (oL l) (aL l) (bL l) (cL l)) 2 := by
  intro k hk j hj
  match k, hk with
  | 0, _ =>
    show ((if j = 0 then (4 : Int) else 13) ≠ 11) ∧ _
    refine ⟨by split <;> decide, fun e => ?_⟩
    have e' : (if j = 0 then (4 : Int) else 13) = 12 := e
    split at e' <;> cases e'
  | 1, _ => exact ⟨(h j hj).1, fun e => absurd e (h j hj).2⟩

theorem all_of {l : List (Int × Int × Int × Int)} {p : Int × Int × Int × Int → Prop} (h : ∀ t ∈ l, p t) (k : Nat) (hk : k < l.length) : p (oL l k, aL l k, bL l k, cL l k) := by
  have e : l.getD k (0, 0, 0, 0) = l[k] := by rw [List.getD_eq_getElem?_getD, List.getElem?_eq_getElem hk]; rfl
  have := h (l.getD k (0, 0, 0, 0)) (by rw [e]; exact List.getElem_mem hk)
  exact this

/-- told words, as a slice of their own -/
theorem one_told {w : World} {B : Nat} {v : Value} {x : Int} (h : w.ownsRow B 3 1 v [x].length (ints [x])) : ∃ g c, v = .slice (some ⟨g, 0, none⟩) 1 c ∧ w.cell? ⟨g, 0, none⟩ = some (.int .i64 x) ∧ g < w.heap.size := by
  obtain ⟨g, c, rfl⟩ := ownsRow_succ h
  have hc := h.cellAt 0 (by simp)
  have hc' : w.cell? ⟨g, 0, none⟩ = some (.int .i64 x) := hc
  exact ⟨g, c, rfl, hc', World.block_lt_of_cell? w _ hc'⟩

theorem out_forms {B : Nat} {w : World} {vT vD vC : Value} {s : St} (h : Out B w vT vD vC s) : ∃ aT nT cT aD nD cD aC nC cC, vT = .slice aT nT cT ∧ vD = .slice aD nD cD ∧ vC = .slice aC nC cC := by
  obtain ⟨_, _, _, e0⟩ := row_form h.told
  obtain ⟨_, _, _, e1⟩ := row_form h.data
  obtain ⟨_, _, _, e2⟩ := calls_form h
  exact ⟨_, _, _, _, _, _, _, _, _, e0, e1, e2⟩

/-- what MachineDoes runs -/
def doing (k x y : Int) : List (Int × Int × Int × Int) := [(1, x, 0, 0), (1, y, 0, 0), (8, k, 0, 0), (3, 0, 0, 0), (14, 0, 0, 0), (13, 0, 0, 0)]

theorem does_run (k x y : Int) (hk : 1 ≤ k) (hk' : k ≤ 10) (hx : 0 ≤ x) (hx' : x ≤ 65535) (hy : 0 ≤ y) (hy' : y ≤ 65535) (W : World) (cb : Nat) (hl : Lies W) (h : W.heap[cb]? = some (.cells (flat (doing k x y)).toArray 27)) :
    Calls Tryd.prog 19 #[.slice (some ⟨cb, 0, none⟩) 6 6, .int .i64 0, .int .i64 100] W fun e w' => Below W.heap.size W w' ∧ ∃ g cT aD nD cD aC nC cC, e = .returned (.tuple #[.agg #[.int .i64 1, .int .i64 (Plain.wdo k x y), .slice (some ⟨g, 0, none⟩) 1 cT, .slice aD nD cD, .slice aC nC cC], .bool true]) ∧ w'.cell? ⟨g, 0, none⟩ = some (.int .i64 (Plain.wdo k x y)) ∧ g < w'.heap.size := by
  refine (krun0 cb (doing k x y).length 100 (by simp [doing]) (by simp [doing]) (by decide) (oL (doing k x y)) (aL (doing k x y)) (bL (doing k x y)) (cL (doing k x y)) (all_of (p := fun t => fault t.1 t.2.1 t.2.2.1 t.2.2.2 = 0) ?_) (fun bb => quiet_of bb cb 0 (doing k x y) (all_of (p := fun t => t.1 ≠ 11 ∧ t.1 ≠ 12) ?_)) W hl (instrs h)).mono ?_
  · intro t ht
    simp only [doing, List.mem_cons, List.not_mem_nil, or_false] at ht
    rcases ht with rfl | rfl | rfl | rfl | rfl | rfl <;> simp [fault, row, rows, *]
  · intro t ht
    simp only [doing, List.mem_cons, List.not_mem_nil, or_false] at ht
    rcases ht with rfl | rfl | rfl | rfl | rfl | rfl <;> simp
  · rintro e w' ⟨hb, bb, vT, vD, vC, rfl, ho⟩
    obtain ⟨s, hr, ht⟩ := does wdoT (parts bb cb (doing k x y).length 0 (oL (doing k x y)) (aL (doing k x y)) (bL (doing k x y)) (cL (doing k x y))) 2 x y k (coded bb cb 0 (doing k x y)) (List.replicate 3 0)
    have hw : wdoT k x y = Plain.wdo k x y := if_pos ⟨⟨hx, hx'⟩, hy, hy'⟩
    rw [hr] at ho ⊢
    rw [hw] at ht ⊢
    have htold := ho.told
    simp only at htold
    rw [ht] at htold
    obtain ⟨g, c, rfl, hg, hlt⟩ := one_told htold
    obtain ⟨_, _, _, _, _, _, _, _, _, _, rfl, rfl⟩ := out_forms ho
    exact ⟨hb, g, c, _, _, _, _, _, _, rfl, hg, hlt⟩

theorem wdoT_less (m : Nat) (h1 : 1 ≤ m) (h2 : m ≤ 100) : wdoT 2 (m : Int) 1 = ((m - 1 : Nat) : Int) := by
  rw [wdoT, if_pos (by omega)]
  simp [Plain.wdo]
  omega

theorem loop_code (k : Nat) (hk : k ≤ 100) : (∀ t ∈ looping k, fault t.1 t.2.1 t.2.2.1 t.2.2.2 = 0) ∧ ∀ t ∈ looping k, t.1 ≠ 11 ∧ t.1 ≠ 12 := by
  constructor
  · intro t ht
    simp only [looping, List.mem_cons, List.not_mem_nil, or_false] at ht
    rcases ht with rfl | rfl | rfl | rfl | rfl | rfl | rfl | rfl | rfl | rfl | rfl <;> simp [fault, row, rows] <;> omega
  · intro t ht
    simp only [looping, List.mem_cons, List.not_mem_nil, or_false] at ht
    rcases ht with rfl | rfl | rfl | rfl | rfl | rfl | rfl | rfl | rfl | rfl | rfl <;> simp

/-- what MachineLoops runs: with all of its fuel, and with less -/
theorem loops_run (k fuel : Nat) (hk : k ≤ 100) (hf : fuel ≤ 2 + 7 * k + 2 + 2) (W : World) (cb : Nat) (hl : Lies W) (h : W.heap[cb]? = some (.cells (flat (looping k)).toArray 27)) :
    Calls Tryd.prog 19 #[.slice (some ⟨cb, 0, none⟩) 11 11, .int .i64 0, .int .i64 fuel] W fun e w' => Below W.heap.size W w' ∧ ∃ aT nT cT aD nD cD aC nC cC, e = .returned (.tuple #[.agg #[.int .i64 (if fuel < 2 + 7 * k + 2 + 2 then 3 else 1), .int .i64 (if fuel < 2 + 7 * k + 2 + 2 then 0 else 7), .slice aT nT cT, .slice aD nD cD, .slice aC nC cC], .bool true]) := by
  refine (krun0 cb (looping k).length fuel (by simp [looping]) (by simp [looping]) (by omega) (oL (looping k)) (aL (looping k)) (bL (looping k)) (cL (looping k)) (all_of (p := fun t => fault t.1 t.2.1 t.2.2.1 t.2.2.2 = 0) (loop_code k hk).1) (fun bb => quiet_of bb cb 0 (looping k) (all_of (p := fun t => t.1 ≠ 11 ∧ t.1 ≠ 12) (loop_code k hk).2)) W hl (instrs h)).mono ?_
  rintro e w' ⟨hb, bb, vT, vD, vC, rfl, ho⟩
  obtain ⟨⟨s, hr⟩, hm⟩ := loops wdoT wdoT_less (parts bb cb (looping k).length 0 (oL (looping k)) (aL (looping k)) (bL (looping k)) (cL (looping k))) 2 k hk (coded bb cb 0 (looping k)) (List.replicate 3 0)
  obtain ⟨_, _, _, _, _, _, _, _, _, rfl, rfl, rfl⟩ := out_forms ho
  by_cases hlt : fuel < 2 + 7 * k + 2 + 2
  · obtain ⟨s', hr'⟩ := hm fuel hlt
    rw [hr', if_pos hlt, if_pos hlt]
    exact ⟨hb, _, _, _, _, _, _, _, _, _, rfl⟩
  · obtain rfl : fuel = 2 + 7 * k + 2 + 2 := by omega
    rw [hr, if_neg hlt, if_neg hlt]
    exact ⟨hb, _, _, _, _, _, _, _, _, _, rfl⟩
end Go.Proofs.YtmmcpjmgindpkacDoor.Listed
