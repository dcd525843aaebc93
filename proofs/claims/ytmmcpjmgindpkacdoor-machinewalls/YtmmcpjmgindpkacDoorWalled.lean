/-
  WHAT MachineWalls RUNS: each of its codes faults, and nothing of it is done.
  Conditions: the table 'code.bounds' lies there, and the code.
-/
import Derived.Test.YtmmcpjmgindpkacDoorKRunS
import Derived.Test.YtmmcpjmgindpkacDoorListed
namespace Go.Proofs.YtmmcpjmgindpkacDoor.Walled
open Go.RowKit Tab Go.Proofs.YtmmcpjmgindpkacDoor.Check Lists Go.Proofs.YtmmcpjmgindpkacDoor.Read Img Mach Go.Proofs.YtmmcpjmgindpkacDoor.Own Go.Proofs.YtmmcpjmgindpkacDoor.Inv ActQ StepQ StepS MRun Keep KRun KRunS Listed

/-- code that faults at once or soon -/
structure Wall (l : List (Int × Int × Int × Int)) : Prop where
  many : l.length ≤ 5
  some : 1 ≤ l.length
  may : ∀ t ∈ l, fault t.1 t.2.1 t.2.2.1 t.2.2.2 = 0
  quiet : ∀ bb cb, QuietFor (parts bb cb l.length 4 (oL l) (aL l) (bL l) (cL l)) 2 1000 (Mach.start (List.replicate 7 0))
  faults : ∀ bb cb, Faults wdoT (parts bb cb l.length 4 (oL l) (aL l) (bL l) (cL l)) 2 (List.replicate 7 0)

theorem quiet_wall (bb cb nw : Nat) (l : List (Int × Int × Int × Int)) (h : ∀ t ∈ l, t.1 ≠ 11 ∧ (t.1 = 12 → 2 ≤ t.2.1 ∨ 1 ≤ t.2.2.1 ∨ (t.2.1 = 0 ∧ t.2.2.2 ≠ 1))) : Quiet (parts bb cb l.length nw (oL l) (aL l) (bL l) (cL l)) 2 := by
  intro k hk j hj
  match k, hk with
  | 0, _ =>
    refine ⟨?_, fun e => ?_⟩
    · show (if j = 0 then (4 : Int) else 13) ≠ 11
      split <;> decide
    · have e' : (if j = 0 then (4 : Int) else 13) = 12 := e
      split at e' <;> cases e'
  | 1, _ =>
    have h1 := all_of (p := fun t => t.1 ≠ 11 ∧ (t.1 = 12 → 2 ≤ t.2.1 ∨ 1 ≤ t.2.2.1 ∨ (t.2.1 = 0 ∧ t.2.2.2 ≠ 1))) h j hj
    refine ⟨h1.1, fun e hh => ?_⟩
    have ha : aL l j < 2 := hh.1
    have hb : bL l j < (parts bb cb l.length nw (oL l) (aL l) (bL l) (cL l) (aL l j).toNat).el := hh.2.1
    have hc : (parts bb cb l.length nw (oL l) (aL l) (bL l) (cL l) (aL l j).toNat).prs (bL l j).toNat = cL l j := hh.2.2
    have hel : ∀ q, (parts bb cb l.length nw (oL l) (aL l) (bL l) (cL l) q).el = 1 := fun q => by cases q <;> rfl
    rw [hel] at hb
    rcases h1.2 e with h2 | h2 | h2
    · simp only at h2; omega
    · simp only at h2; omega
    · simp only at h2
      rw [h2.1] at hc
      exact h2.2 hc.symm

theorem wall_run (l : List (Int × Int × Int × Int)) (h : Wall l) (W : World) (cb : Nat) (hl : Lies W) (hh : W.heap[cb]? = some (.cells (flat l).toArray 27)) :
    Calls Tryd.prog 19 #[.slice (some ⟨cb, 0, none⟩) l.length l.length, .int .i64 4, .int .i64 1000] W fun e w' => Below W.heap.size W w' ∧ ∃ aT cT g cD aC nC cC, e = .returned (.tuple #[.agg #[.int .i64 4, .int .i64 0, .slice aT 0 cT, .slice (some ⟨g, 0, none⟩) 7 cD, .slice aC nC cC], .bool true]) ∧ Hid (∀ i, i < 7 → w'.cell? ⟨g, i, none⟩ = some (.int .i64 0)) ∧ g < w'.heap.size := by
  refine (krunS cb l.length 1000 (by have := h.many; omega) h.some (by decide) (oL l) (aL l) (bL l) (cL l) (all_of (p := fun t => fault t.1 t.2.1 t.2.2.1 t.2.2.2 = 0) h.may) (fun bb => h.quiet bb cb) W hl (instrs hh)).mono ?_
  rintro e w' ⟨hb, bb, vT, vD, vC, rfl, ho⟩
  obtain ⟨s, hr, hd, ht⟩ := h.faults bb cb
  rw [hr] at ho ⊢
  have htold := ho.told
  have hdata := ho.data
  simp only at htold hdata
  rw [ht] at htold
  rw [hd] at hdata
  obtain ⟨_, _, _, _, _, _, _, _, _, _, _, rfl⟩ := out_forms ho
  have hT : ∃ aT cT, vT = .slice aT 0 cT := by
    rcases htold.2 with ⟨rfl, _⟩ | ⟨g, cap, cur, rfl, _⟩ <;> exact ⟨_, _, rfl⟩
  obtain ⟨aT, cT, rfl⟩ := hT
  obtain ⟨g, cD, rfl⟩ := ownsRow_succ (k := 6) hdata
  have hc : ∀ i, i < 7 → w'.cell? ⟨g, i, none⟩ = some (.int .i64 0) := fun i hi => by
    refine (hdata.cellAt i (by simpa using hi)).trans ?_
    rw [ints, List.getElem?_map, List.getElem?_replicate, if_pos hi]
    rfl
  exact ⟨hb, aT, cT, g, cD, _, _, _, rfl, hc, World.block_lt_of_cell? w' _ (hc 0 (by decide))⟩

/-- the codes of MachineWalls -/
def codeAt (p3 p6 p7 p5 : Nat) : Nat → List (Int × Int × Int × Int)
  | 0 => [(1, p3, 0, 0), (1, 9, 0, 0), (7, 0, 0, 0), (1, 0, 0, 0), (13, 0, 0, 0)]
  | 1 => [(1, p3, 0, 0), (6, 0, 0, 0), (13, 0, 0, 0)]
  | 2 => [(1, 7 + p6, 0, 0), (6, 0, 0, 0), (13, 0, 0, 0)]
  | 3 => [(12, 0, 1 + p7, 0), (13, 0, 0, 0)]
  | 4 => [(12, 2 + p3, 0, 0), (13, 0, 0, 0)]
  | 5 => [(1, 0, 0, 0), (1, 0, 0, 0), (12, 0, 0, 2), (13, 0, 0, 0)]
  | 6 => [(12, 0, 0, 1), (13, 0, 0, 0)]
  | 7 => [(2, 0, 0, 0)]
  | 8 => [(13, 0, 0, 0)]
  | 9 => [(9, 5 + p5, 0, 0)]
  | _ => [(1, 0, 0, 0), (9, 0, 0, 0)]

theorem walls (p3 p6 p7 p5 : Nat) (h3 : p3 < 3) (h6 : p6 < 60000) (h7 : p7 < 7) (h5 : p5 < 50) (i : Nat) (hi : i < 11) : Wall (codeAt p3 p6 p7 p5 i) := by
  have q : ∀ {l : List (Int × Int × Int × Int)}, (∀ t ∈ l, t.1 ≠ 11 ∧ (t.1 = 12 → 2 ≤ t.2.1 ∨ 1 ≤ t.2.2.1 ∨ (t.2.1 = 0 ∧ t.2.2.2 ≠ 1))) → ∀ bb cb, QuietFor (parts bb cb l.length 4 (oL l) (aL l) (bL l) (cL l)) 2 1000 (Mach.start (List.replicate 7 0)) := fun h bb cb => quietFor (quiet_wall bb cb 4 _ h) _ _
  have lo : ∀ {l : List (Int × Int × Int × Int)} bb cb, (parts bb cb l.length 4 (oL l) (aL l) (bL l) (cL l) 1).lo = 3 := fun _ _ => rfl
  have hi7 : ∀ {l : List (Int × Int × Int × Int)} bb cb, (parts bb cb l.length 4 (oL l) (aL l) (bL l) (cL l) 1).hi = 7 := fun _ _ => rfl
  have el : ∀ {l : List (Int × Int × Int × Int)} bb cb k, (parts bb cb l.length 4 (oL l) (aL l) (bL l) (cL l) k).el = 1 := fun _ _ k => by cases k <;> rfl
  match i, hi with
  | 0, _ => exact ⟨by simp [codeAt], by simp [codeAt], by intro t ht; simp only [codeAt, List.mem_cons, List.not_mem_nil, or_false] at ht; rcases ht with rfl | rfl | rfl | rfl | rfl <;> simp [fault, row, rows] <;> omega, q (by intro t ht; simp only [codeAt, List.mem_cons, List.not_mem_nil, or_false] at ht; rcases ht with rfl | rfl | rfl | rfl | rfl <;> simp), fun bb cb => wall0 _ _ _ p3 (coded bb cb 4 _) (by rw [lo]; omega) _⟩
  | 1, _ => exact ⟨by simp [codeAt], by simp [codeAt], by intro t ht; simp only [codeAt, List.mem_cons, List.not_mem_nil, or_false] at ht; rcases ht with rfl | rfl | rfl <;> simp [fault, row, rows] <;> omega, q (by intro t ht; simp only [codeAt, List.mem_cons, List.not_mem_nil, or_false] at ht; rcases ht with rfl | rfl | rfl <;> simp), fun bb cb => wall1 _ _ _ p3 (coded bb cb 4 _) (by rw [lo, hi7]; omega) _⟩
  | 2, _ => exact ⟨by simp [codeAt], by simp [codeAt], by intro t ht; simp only [codeAt, List.mem_cons, List.not_mem_nil, or_false] at ht; rcases ht with rfl | rfl | rfl <;> simp [fault, row, rows] <;> omega, q (by intro t ht; simp only [codeAt, List.mem_cons, List.not_mem_nil, or_false] at ht; rcases ht with rfl | rfl | rfl <;> simp), fun bb cb => wall1 _ _ _ (7 + p6) (coded bb cb 4 _) (by rw [lo, hi7]; omega) _⟩
  | 3, _ => exact ⟨by simp [codeAt], by simp [codeAt], by intro t ht; simp only [codeAt, List.mem_cons, List.not_mem_nil, or_false] at ht; rcases ht with rfl | rfl <;> simp [fault, row, rows] <;> omega, q (by intro t ht; simp only [codeAt, List.mem_cons, List.not_mem_nil, or_false] at ht; rcases ht with rfl | rfl <;> simp <;> omega), fun bb cb => wall2 _ _ _ 0 (1 + p7) (coded bb cb 4 _) (by rw [el]; omega) _⟩
  | 4, _ => exact ⟨by simp [codeAt], by simp [codeAt], by intro t ht; simp only [codeAt, List.mem_cons, List.not_mem_nil, or_false] at ht; rcases ht with rfl | rfl <;> simp [fault, row, rows] <;> omega, q (by intro t ht; simp only [codeAt, List.mem_cons, List.not_mem_nil, or_false] at ht; rcases ht with rfl | rfl <;> simp <;> omega), fun bb cb => wall2 _ _ _ (2 + p3) 0 (coded bb cb 4 _) (by omega) _⟩
  | 5, _ => exact ⟨by simp [codeAt], by simp [codeAt], by intro t ht; simp only [codeAt, List.mem_cons, List.not_mem_nil, or_false] at ht; rcases ht with rfl | rfl | rfl | rfl <;> simp [fault, row, rows], q (by intro t ht; simp only [codeAt, List.mem_cons, List.not_mem_nil, or_false] at ht; rcases ht with rfl | rfl | rfl | rfl <;> simp), fun bb cb => wall5 _ _ _ (coded bb cb 4 _) (by show (1 : Int) ≠ 2; decide) _⟩
  | 6, _ =>
    have few : ∀ bb cb, Mach.step wdoT (parts bb cb 2 4 (oL [(12, 0, 0, 1), (13, 0, 0, 0)]) (aL [(12, 0, 0, 1), (13, 0, 0, 0)]) (bL [(12, 0, 0, 1), (13, 0, 0, 0)]) (cL [(12, 0, 0, 1), (13, 0, 0, 0)])) 2 (Mach.start (List.replicate 7 0)) = .inl (4, 0, Mach.start (List.replicate 7 0)) := fun bb cb => step_few (coded bb cb 4 [(12, 0, 0, 1), (13, 0, 0, 0)]) (k := 0) rfl (by decide)
    refine ⟨by simp [codeAt], by simp [codeAt], by intro t ht; simp only [codeAt, List.mem_cons, List.not_mem_nil, or_false] at ht; rcases ht with rfl | rfl <;> simp [fault, row, rows], fun bb cb => ⟨fun f rest hr hp hc hw => ?_, fun s' e => ?_⟩, fun bb cb => wall6 _ _ _ 12 0 0 1 [(13, 0, 0, 0)] (coded bb cb 4 _) (by decide) _⟩
    · injection hr with h1 h2
      subst h1
      have hw' : needs 12 0 1 ≤ ([] : List Int).length := hw
      exact absurd hw' (by decide)
    · have h1 := (few bb cb).symm.trans e
      cases h1
  | 7, _ => exact ⟨by simp [codeAt], by simp [codeAt], by intro t ht; simp only [codeAt, List.mem_cons, List.not_mem_nil, or_false] at ht; rcases ht with rfl <;> simp [fault, row, rows], q (by intro t ht; simp only [codeAt, List.mem_cons, List.not_mem_nil, or_false] at ht; rcases ht with rfl <;> simp), fun bb cb => wall6 _ _ _ 2 0 0 0 [] (coded bb cb 4 _) (by decide) _⟩
  | 8, _ => exact ⟨by simp [codeAt], by simp [codeAt], by intro t ht; simp only [codeAt, List.mem_cons, List.not_mem_nil, or_false] at ht; rcases ht with rfl <;> simp [fault, row, rows], q (by intro t ht; simp only [codeAt, List.mem_cons, List.not_mem_nil, or_false] at ht; rcases ht with rfl <;> simp), fun bb cb => wall6 _ _ _ 13 0 0 0 [] (coded bb cb 4 _) (by decide) _⟩
  | 9, _ => exact ⟨by simp [codeAt], by simp [codeAt], by intro t ht; simp only [codeAt, List.mem_cons, List.not_mem_nil, or_false] at ht; rcases ht with rfl <;> simp [fault, row, rows] <;> omega, q (by intro t ht; simp only [codeAt, List.mem_cons, List.not_mem_nil, or_false] at ht; rcases ht with rfl <;> simp), fun bb cb => wall9 _ _ _ (5 + p5) (by omega) (coded bb cb 4 _) _⟩
  | 10, _ => exact ⟨by simp [codeAt], by simp [codeAt], by intro t ht; simp only [codeAt, List.mem_cons, List.not_mem_nil, or_false] at ht; rcases ht with rfl | rfl <;> simp [fault, row, rows], q (by intro t ht; simp only [codeAt, List.mem_cons, List.not_mem_nil, or_false] at ht; rcases ht with rfl | rfl <;> simp), fun bb cb => wall10 _ _ _ (coded bb cb 4 _) _⟩
end Go.Proofs.YtmmcpjmgindpkacDoor.Walled
