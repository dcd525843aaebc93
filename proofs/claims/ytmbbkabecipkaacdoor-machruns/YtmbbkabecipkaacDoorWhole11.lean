/-
  WHAT mach.do GIVES, an instruction each (but for Call and a Gate that goes through).
  Conditions: the run lies there, with the words that were taken.
  WHAT mach.do GIVES, every instruction but Call and a Gate that goes through: what the plain machine does.
  Conditions: the run lies there, with the words that were taken; the image may be.
-/
import Derived.Test.YtmbbkabecipkaacDoorWhole6
import Derived.Test.YtmbbkabecipkaacDoorWhole7
import Derived.Test.YtmbbkabecipkaacDoorWhole8
import Derived.Test.YtmbbkabecipkaacDoorWhole9
import Derived.Test.YtmbbkabecipkaacDoorWhole10
namespace Go.Proofs.YtmbbkabecipkaacDoor.ActE
open Go.RowKit Tab Go.Proofs.YtmbbkabecipkaacDoor.Check Lists Img Mach Own Go.Proofs.YtmbbkabecipkaacDoor.Inv Go.Proofs.YtmbbkabecipkaacDoor.Frame Take Go.Proofs.YtmbbkabecipkaacDoor.Went Go.Proofs.YtmbbkabecipkaacDoor.Look ActA Ret

section
variable {own : Nat → Tag} {w1 w w' : World} {R D g cap : Nat} {pS lS vF vT vC : Value} {fuel : Int} {f : Fr} {v tv : Value} {F : List (Fr × Value)} {l data told : List Int} {C : List (Rec × Value)} {gL len capL : Nat} {P : Nat → PartD}

/-- P4.5, plain -/
def back (s : St) (f : Fr) (rest : List Fr) (x : Int) : (Int × Int × St) ⊕ St :=
  match rest with
  | [] => ends 1 x (match f.noted with | none => s | some k => { s with calls := s.calls.modify k fun r => { r with done := true, value := x } })
  | g :: rest' => puts (match f.noted with | none => s | some k => { s with calls := s.calls.modify k fun r => { r with done := true, value := x } }) g rest' [x]

theorem ret (h : Inv own w1 w R D pS lS (.slice (some ⟨g, 0, none⟩) (F.length + 1) cap) vT vC fuel ((f, v) :: F) l data told C) (hF : F.length + 1 ≤ 20) (hw : ∀ p ∈ F, p.1.words.length ≤ 40) (hn : ∀ k, f.noted = some k → k < C.length) (hC : C.length ≤ 100) (x : Int) (rm : List Fr) :
    Calls Tryd.prog 50 #[.pointer (some ⟨R, 0, none⟩), .int .i64 x] w fun e w' => Went w1 R D pS lS fuel e w' (back ⟨rm, data, told, C.map Prod.fst⟩ f (F.map Prod.fst) x) := by
  obtain ⟨g', cap', e, _, hc1, hc2⟩ := h.frames.form (by simp)
  simp only [List.length_cons, Value.slice.injEq, Option.some.injEq, Addr.mk.injEq, and_true, true_and] at e
  obtain ⟨rfl, rfl⟩ := e
  simp only [List.length_cons] at hc1
  match hno : f.noted with
  | none =>
    match F, h, hF, hw, hc1 with
    | [], h, hF, hw, hc1 =>
      refine (ret_last (by simpa using h) hno x (by simpa using hc1) hc2).mono ?_
      rintro e w' ⟨rfl, h'⟩
      simp only [back, List.map_nil, hno]
      exact went_end h' ⟨rfl, rfl, rfl⟩
    | (f2, v2) :: F2, h, hF, hw, hc1 =>
      refine (ret_more (by simpa using h) hno x (by simpa using hc1) hc2 (by simpa using hF) (hw (f2, v2) (by simp)) rm).mono ?_
      intro e w' h'
      simp only [back, List.map_cons, hno]
      exact h'
  | some k =>
    have hk := hn k hno
    obtain ⟨gC, capC, rfl, _, _⟩ := h.calls.form (by omega)
    match F, h, hF, hw, hc1 with
    | [], h, hF, hw, hc1 =>
      refine (retN_last (by simpa using h) hno hk hC x (by simpa using hc1) hc2).mono ?_
      rintro e w' ⟨rfl, h'⟩
      simp only [back, List.map_nil, hno]
      exact went_end h' ⟨rfl, rfl, (doneAt_map k x).symm⟩
    | (f2, v2) :: F2, h, hF, hw, hc1 =>
      refine (retN_more (by simpa using h) hno hk hC x (by simpa using hc1) hc2 (by simpa using hF) (hw (f2, v2) (by simp)) rm).mono ?_
      intro e w' h'
      simp only [back, List.map_cons, hno, ← doneAt_map]
      exact h'

/-- the parts that were handed in lie there as long as what lay there is as it was -/
def Kept (w1 : World) (R D : Nat) (ao : Option Addr) (len : Nat) (P : Nat → PartD) : Prop := ∀ w, (∀ b, b < w1.heap.size → b ≠ R → b ≠ D → w.heap[b]? = w1.heap[b]?) → Parts w ao len P

theorem parts_of {ao : Option Addr} (h : Inv own w1 w R D pS lS vF vT vC fuel F l data told C) (hP : Kept w1 R D ao len P) : ∀ w', Below w.heap.size w w' → Parts w' ao len P :=
  fun w' hb => hP w' fun b h1 hR hD => (hb.block b (Nat.lt_of_lt_of_le h1 h.base.size)).trans (h.base.kept b h1 hR hD).2

theorem gate_fault {ao : Option Addr} {capP : Nat} (h : Inv own w1 w R D (.slice ao len capP) lS vF vT vC fuel F l data told C) (hP : Kept w1 R D ao len P) (hlen : len ≤ 5) (hel : ∀ k, k < len → (P k).el ≤ 8) (by_ : Nat) (op a b c : Int) (ha : 0 ≤ a) (hb : 0 ≤ b) (n : Nat) (hc : c = n) (ta : Option Addr) (tc : Nat)
    (hno : ¬ (a < len ∧ b < (P a.toNat).el ∧ (P a.toNat).prs b.toNat = c)) :
    Calls Tryd.prog 49 #[.pointer (some ⟨R, 0, none⟩), .int .i64 by_, .agg #[.int .i64 op, .int .i64 a, .int .i64 b, .int .i64 c], .slice ta n tc] w fun e w' => e = .returned (.int .i64 4) ∧ Below w.heap.size w w' := by
  have c0 : w.cell? ⟨R, 0, none⟩ = some (.slice ao len capP) := h.run.cell 0 rfl
  by_cases hy : (0 ≤ a ∧ a < len) ∧ (0 ≤ b ∧ b < (P a.toNat).el)
  · obtain ⟨k, rfl⟩ : ∃ k : Nat, a = k := ⟨a.toNat, by omega⟩
    obtain ⟨i, rfl⟩ : ∃ i : Nat, b = i := ⟨b.toNat, by omega⟩
    simp only [Int.toNat_natCast] at hy hno
    subst hc
    exact Gate.gate_count ao len capP hlen P R by_ k i n (by omega) (by omega) (hel k (by omega)) op n ta tc w c0 (parts_of h hP) (fun e => hno ⟨by omega, by omega, e⟩)
  · exact Gate.gate_no ao len capP hlen P hel R by_ op a b c _ w c0 (parts_of h hP) hy

set_option maxRecDepth 100000 in
set_option maxHeartbeats 1000000 in
theorem ret_ (x : Int) (h : Inv own w1 w R D pS lS (.slice (some ⟨g, 0, none⟩) (F.length + 1) cap) vT vC fuel ((f, v) :: F) [x] data told C) (hc : Cut v tv 1) (_hw : f.words.length ≤ 40) (a b c : Int) (hF : F.length + 1 ≤ 20) (hws : ∀ p ∈ F, p.1.words.length ≤ 40) (hn : ∀ k, f.noted = some k → k < C.length) (hC : C.length ≤ 100) (rm : List Fr) :
    Calls Tryd.prog 39 #[.pointer (some ⟨R, 0, none⟩), .pointer (some ⟨g, F.length * 12, none⟩), .agg #[.int .i64 13, .int .i64 a, .int .i64 b, .int .i64 c], tv] w fun e w' => Went w1 R D pS lS fuel e w' (back ⟨rm, data, told, C.map Prod.fst⟩ f (F.map Prod.fst) x) := by
  have hI := h.alloc (.cells #[.int .i64 13, .int .i64 a, .int .i64 b, .int .i64 c] 27)
  obtain ⟨ta, tc, rfl, hcell⟩ := h.rooms.1.1.cut hc
  obtain ⟨gw0, rfl, cx0⟩ := hcell 0 x rfl
  have hgw : gw0 < w.heap.size := World.block_lt_of_cell? w _ cx0
  have u0 : ∀ o, (w.alloc o).cell? ⟨gw0, f.words.length, none⟩ = some (.int .i64 x) := fun o => (World.cell?_alloc_past o _ _ hgw).trans cx0
  have k50 : ∀ W, Inv own w1 W R D pS lS (.slice (some ⟨g, 0, none⟩) (F.length + 1) cap) vT vC fuel ((f, v) :: F) [x] data told C → _ := fun W hI => ret hI hF hws hn hC x rm
  obtain ⟨k, hk⟩ : ∃ k, k = f.words.length := ⟨_, rfl⟩
  rw [← hk] at u0
  obtain ⟨out, hout⟩ : ∃ o, o = back ⟨rm, data, told, C.map Prod.fst⟩ f (F.map Prod.fst) x := ⟨_, rfl⟩
  rw [← hout] at k50 ⊢
  rw [← hk]
  have K50 : Hid _ := k50
  have HI : Hid _ := hI
  clear h hI k50 _hw hc hk hout hcell hF hws hn hC
  go_enter Tryd.func39, Tryd.ntmps39
  go_wp2_with (go_at_call 50; refine (K50.out _ (by exact HI.out)).mono ?_; intro e w' hwent; obtain ⟨n', rfl⟩ := went_ret hwent)
  go_ret
  exact hwent

set_option maxRecDepth 100000 in
set_option maxHeartbeats 1000000 in
theorem gate_ {ao : Option Addr} {capP : Nat} (h : Inv own w1 w R D (.slice ao len capP) lS (.slice (some ⟨g, 0, none⟩) (F.length + 1) cap) vT vC fuel ((f, v) :: F) l data told C) (hc : Cut v tv l.length) (a b c : Int) (hP : Kept w1 R D ao len P) (hlen : len ≤ 5) (hel : ∀ k, k < len → (P k).el ≤ 8) (ha : 0 ≤ a) (hb : 0 ≤ b) (hcl : c = l.length) (hno : ¬ (a < len ∧ b < (P a.toNat).el ∧ (P a.toNat).prs b.toNat = c)) (rm : List Fr) :
    Calls Tryd.prog 39 #[.pointer (some ⟨R, 0, none⟩), .pointer (some ⟨g, F.length * 12, none⟩), .agg #[.int .i64 12, .int .i64 a, .int .i64 b, .int .i64 c], tv] w fun e w' => Went w1 R D (.slice ao len capP) lS fuel e w' (ends 4 0 ⟨rm, data, told, C.map Prod.fst⟩) := by
  have hI := h.alloc (.cells #[.int .i64 12, .int .i64 a, .int .i64 b, .int .i64 c] 27)
  obtain ⟨ta, tc, rfl, hcell⟩ := h.rooms.1.1.cut hc
  have c0 : ∀ o, (w.alloc o).cell? ⟨g, F.length * 12, none⟩ = some (.int .i64 f.part) := fun o => (h.alloc o).top_cell 0 rfl
  have k49 : ∀ W, Inv own w1 W R D (.slice ao len capP) lS (.slice (some ⟨g, 0, none⟩) (F.length + 1) cap) vT vC fuel ((f, v) :: F) l data told C → Calls Tryd.prog 49 #[.pointer (some ⟨R, 0, none⟩), .int .i64 f.part, .agg #[.int .i64 12, .int .i64 a, .int .i64 b, .int .i64 c], .slice ta l.length tc] W fun e w' => Went w1 R D (.slice ao len capP) lS fuel e w' (ends 4 0 ⟨rm, data, told, C.map Prod.fst⟩) := by
    intro W hI
    refine (gate_fault hI hP hlen hel f.part 12 a b c ha hb l.length hcl ta tc hno).mono ?_
    rintro e w' ⟨rfl, hbw⟩
    exact went_end (hI.moves (Moves.below hbw (fun _ _ => rfl) _)).fin ⟨rfl, rfl, rfl⟩
  obtain ⟨out, hout⟩ : ∃ o, o = ends 4 0 ⟨rm, data, told, C.map Prod.fst⟩ := ⟨_, rfl⟩
  rw [← hout] at k49 ⊢
  obtain ⟨n, hn⟩ : ∃ n, n = l.length := ⟨_, rfl⟩
  obtain ⟨q, hq⟩ : ∃ q, q = f.part := ⟨_, rfl⟩
  rw [← hn] at k49 ⊢
  rw [← hq] at k49 c0
  have K49 : Hid _ := k49
  have HI : Hid _ := hI
  clear h hI k49 hc hout hcell hP hlen hel ha hb hcl hno hn hq
  go_enter Tryd.func39, Tryd.ntmps39
  go_wp2
  go_region_with ((go_at_call 49; refine (K49.out _ (by exact Inv.same HI.out rfl rfl rfl rfl)).mono ?_; intro e w' hwent; obtain ⟨n', rfl⟩ := went_ret hwent))
  all_goals
    go_wp2
    go_ret
    exact hwent
end
end Go.Proofs.YtmbbkabecipkaacDoor.ActE

namespace Go.Proofs.YtmbbkabecipkaacDoor.ActQ
open Go.RowKit Tab Go.Proofs.YtmbbkabecipkaacDoor.Check Lists Img Mach Own Go.Proofs.YtmbbkabecipkaacDoor.Inv Go.Proofs.YtmbbkabecipkaacDoor.Frame Take Go.Proofs.YtmbbkabecipkaacDoor.Went ActA ActB ActC ActD ActE

/-- word.Do's first answer, whatever it is handed -/
def wdoT (op a b : Int) : Int := if (0 ≤ a ∧ a ≤ 65535) ∧ (0 ≤ b ∧ b ≤ 65535) then Plain.wdo op a b else 0

theorem did (op a b : Int) (h1 : 1 ≤ op) (h2 : op ≤ 10) (w : World) : Calls Tryd.prog 18 #[.int .i64 op, .int .i64 a, .int .i64 b] w fun e w' => ∃ r, e = .returned (.tuple #[.int .i64 (wdoT op a b), .int .i64 r]) ∧ w' = w := by
  by_cases h : (0 ≤ a ∧ a ≤ 65535) ∧ (0 ≤ b ∧ b ≤ 65535)
  · rw [wdoT, if_pos h]
    refine (Do.ok op a b h1 h2 h.1.1 h.1.2 h.2.1 h.2.2 w).mono ?_
    rintro e w' ⟨rfl, rfl⟩
    exact ⟨_, rfl, rfl⟩
  · rw [wdoT, if_neg h]
    refine (Do.range op a b h1 h2 h w).mono ?_
    rintro e w' ⟨rfl, rfl⟩
    exact ⟨_, rfl, rfl⟩

theorem fault_zero {op a b c : Int} (h : fault op a b c = 0) : (1 ≤ op ∧ op ≤ 15) ∧ ((row op.toNat).1 ≤ a ∧ a ≤ (row op.toNat).2.1) ∧ (0 ≤ b ∧ b ≤ (row op.toNat).2.2.1) ∧ (0 ≤ c ∧ c ≤ (row op.toNat).2.2.2) := by
  unfold fault at h
  split at h
  · split at h
    · exact ⟨by assumption, by assumption⟩
    · cases h
  · cases h

theorem two_of {l : List Int} (h : l.length = 2) : ∃ x y, l = [x, y] := by
  match l, h with
  | [x, y], _ => exact ⟨x, y, rfl⟩

/-- what is known of an image that may be, and of where it lies -/
structure Sure (w1 : World) (R D : Nat) (ao : Option Addr) (gL len dlen : Nat) (P : Nat → PartD) : Prop where
  kept : Kept w1 R D ao len P
  looks : Go.Proofs.YtmbbkabecipkaacDoor.Look.Looks w1 R D gL len dlen P
  len5 : len ≤ 5
  el8 : ∀ k, k < len → (P k).el ≤ 8
  cl1200 : ∀ k, k < len → (P k).cl ≤ 1200
  code : ∀ k, k < len → ∀ j, j < (P k).cl → fault ((P k).o j) ((P k).a j) ((P k).b j) ((P k).c j) = 0
  own : ∀ k, k < len → 0 ≤ (P k).lo ∧ (P k).hi ≤ dlen
  entries : ∀ k, k < len → ∀ j, j < (P k).el → (0 ≤ (P k).ats j ∧ (P k).ats j < (P k).cl) ∧ (0 ≤ (P k).prs j ∧ (P k).prs j ≤ 4)

section
variable {own : Nat → Tag} {w1 w w' : World} {R D g cap : Nat} {lS vF vT vC : Value} {fuel : Int} {f : Fr} {v tv : Value} {F : List (Fr × Value)} {l data told : List Int} {C : List (Rec × Value)} {gL len capL capP : Nat} {P : Nat → PartD} {ao : Option Addr}

set_option maxHeartbeats 1000000 in
theorem quiet (h : Inv own w1 w R D (.slice ao len capP) (.slice (some ⟨gL, 0, none⟩) len capL) (.slice (some ⟨g, 0, none⟩) (F.length + 1) cap) vT vC fuel ((f, v) :: F) l data told C) (hc : Cut v tv l.length) (hS : Sure w1 R D ao gL len data.length P)
    (hw : f.words.length ≤ 40) (hp : f.part < len) (ht : told.length ≤ 500) (hF : F.length + 1 ≤ 20) (hws : ∀ p ∈ F, p.1.words.length ≤ 40) (hn : ∀ k, f.noted = some k → k < C.length) (hC : C.length ≤ 100)
    (op a b c : Int) (hf : fault op a b c = 0) (hl : l.length = needs op b c) (hq : op ≠ 11 ∧ (op = 12 → ¬ (a < len ∧ b < (P a.toNat).el ∧ (P a.toNat).prs b.toNat = c))) (rm : List Fr) :
    Calls Tryd.prog 39 #[.pointer (some ⟨R, 0, none⟩), .pointer (some ⟨g, F.length * 12, none⟩), .agg #[.int .i64 op, .int .i64 a, .int .i64 b, .int .i64 c], tv] w fun e w' => Went w1 R D (.slice ao len capP) (.slice (some ⟨gL, 0, none⟩) len capL) fuel e w' (Mach.act wdoT P len ⟨rm, data, told, C.map Prod.fst⟩ f (F.map Prod.fst) op a b c l) := by
  obtain ⟨⟨o1, o15⟩, ⟨a0, a1⟩, ⟨b0, b1⟩, ⟨c0, c1⟩⟩ := fault_zero hf
  rcases (show op = 1 ∨ op = 2 ∨ op = 3 ∨ op = 4 ∨ op = 5 ∨ op = 6 ∨ op = 7 ∨ op = 8 ∨ op = 9 ∨ op = 10 ∨ op = 12 ∨ op = 13 ∨ op = 14 ∨ op = 15 by have := hq.1; omega) with rfl | rfl | rfl | rfl | rfl | rfl | rfl | rfl | rfl | rfl | rfl | rfl | rfl | rfl
  · obtain rfl : l = [] := List.eq_nil_of_length_eq_zero (by rw [hl]; simp [needs])
    rw [show Mach.act wdoT P len ⟨rm, data, told, C.map Prod.fst⟩ f (F.map Prod.fst) 1 a b c [] = puts ⟨rm, data, told, C.map Prod.fst⟩ f (F.map Prod.fst) [a] by simp [Mach.act]]
    exact push h hc hw a b c rm
  · obtain ⟨x, rfl⟩ := List.length_eq_one_iff.1 (by rw [hl]; simp [needs] : l.length = 1)
    rw [show Mach.act wdoT P len ⟨rm, data, told, C.map Prod.fst⟩ f (F.map Prod.fst) 2 a b c [x] = puts ⟨rm, data, told, C.map Prod.fst⟩ f (F.map Prod.fst) [] by simp [Mach.act]]
    exact drop x h hc hw a b c rm
  · obtain ⟨x, rfl⟩ := List.length_eq_one_iff.1 (by rw [hl]; simp [needs] : l.length = 1)
    rw [show Mach.act wdoT P len ⟨rm, data, told, C.map Prod.fst⟩ f (F.map Prod.fst) 3 a b c [x] = puts ⟨rm, data, told, C.map Prod.fst⟩ f (F.map Prod.fst) [x, x] by simp [Mach.act]]
    exact dup x h hc hw a b c rm
  · obtain rfl : l = [] := List.eq_nil_of_length_eq_zero (by rw [hl]; simp [needs])
    obtain ⟨j, rfl⟩ : ∃ j : Nat, a = j := ⟨a.toNat, by simp [row, rows] at a0; omega⟩
    rw [show Mach.act wdoT P len ⟨rm, data, told, C.map Prod.fst⟩ f (F.map Prod.fst) 4 j b c [] = puts ⟨rm, data, told, C.map Prod.fst⟩ f (F.map Prod.fst) [f.locals.getD j 0] by simp [Mach.act]]
    exact get h hc hw j b c j (by simp [row, rows] at a1; omega) rfl rm
  · obtain ⟨x, rfl⟩ := List.length_eq_one_iff.1 (by rw [hl]; simp [needs] : l.length = 1)
    obtain ⟨j, rfl⟩ : ∃ j : Nat, a = j := ⟨a.toNat, by simp [row, rows] at a0; omega⟩
    rw [show Mach.act wdoT P len ⟨rm, data, told, C.map Prod.fst⟩ f (F.map Prod.fst) 5 j b c [x] = puts ⟨rm, data, told, C.map Prod.fst⟩ { f with locals := f.locals.set j x } (F.map Prod.fst) [] by simp [Mach.act]]
    exact put_ x h hc hw j b c j (by simp [row, rows] at a1; omega) rfl rm
  · obtain ⟨x, rfl⟩ := List.length_eq_one_iff.1 (by rw [hl]; simp [needs] : l.length = 1)
    rw [show Mach.act wdoT P len ⟨rm, data, told, C.map Prod.fst⟩ f (F.map Prod.fst) 6 a b c [x] = if (P f.part).lo ≤ x ∧ x < (P f.part).hi then puts ⟨rm, data, told, C.map Prod.fst⟩ f (F.map Prod.fst) [data.getD x.toNat 0] else ends 4 0 ⟨rm, data, told, C.map Prod.fst⟩ by simp [Mach.act]]
    exact load_ x h hc hw a b c hS.looks hp hS.len5 (hS.own _ hp) rm
  · obtain ⟨x, y, rfl⟩ := two_of (by rw [hl]; simp [needs] : l.length = 2)
    rw [show Mach.act wdoT P len ⟨rm, data, told, C.map Prod.fst⟩ f (F.map Prod.fst) 7 a b c [x, y] = if (P f.part).lo ≤ x ∧ x < (P f.part).hi then puts ⟨rm, data.set x.toNat y, told, C.map Prod.fst⟩ f (F.map Prod.fst) [] else ends 4 0 ⟨rm, data, told, C.map Prod.fst⟩ by simp [Mach.act]]
    exact store_ x y h hc hw a b c hS.looks hp hS.len5 (hS.own _ hp) rm
  · obtain ⟨x, y, rfl⟩ := two_of (by rw [hl]; simp [needs] : l.length = 2)
    rw [show Mach.act wdoT P len ⟨rm, data, told, C.map Prod.fst⟩ f (F.map Prod.fst) 8 a b c [x, y] = puts ⟨rm, data, told, C.map Prod.fst⟩ f (F.map Prod.fst) [wdoT a x y] by simp [Mach.act]]
    exact do_ x y h hc hw a b c _ (fun w => did a x y (by simp [row, rows] at a0; omega) (by simp [row, rows] at a1; omega) w) rm
  · obtain rfl : l = [] := List.eq_nil_of_length_eq_zero (by rw [hl]; simp [needs])
    obtain ⟨j, rfl⟩ : ∃ j : Nat, a = j := ⟨a.toNat, by simp [row, rows] at a0; omega⟩
    rw [show Mach.act wdoT P len ⟨rm, data, told, C.map Prod.fst⟩ f (F.map Prod.fst) 9 j b c [] = puts ⟨rm, data, told, C.map Prod.fst⟩ { f with pc := j } (F.map Prod.fst) [] by simp [Mach.act]]
    exact jump h hc hw j b c j rfl rm
  · obtain ⟨x, rfl⟩ := List.length_eq_one_iff.1 (by rw [hl]; simp [needs] : l.length = 1)
    obtain ⟨j, rfl⟩ : ∃ j : Nat, a = j := ⟨a.toNat, by simp [row, rows] at a0; omega⟩
    rw [show Mach.act wdoT P len ⟨rm, data, told, C.map Prod.fst⟩ f (F.map Prod.fst) 10 j b c [x] = puts ⟨rm, data, told, C.map Prod.fst⟩ (if x = 0 then { f with pc := j } else f) (F.map Prod.fst) [] by simp [Mach.act]]
    exact jz x h hc hw j b c j rfl rm
  · rw [show Mach.act wdoT P len ⟨rm, data, told, C.map Prod.fst⟩ f (F.map Prod.fst) 12 a b c l = ends 4 0 ⟨rm, data, told, C.map Prod.fst⟩ by
      unfold Mach.act
      rw [if_neg (by decide), if_neg (by decide), if_neg (by decide), if_neg (by decide), if_neg (by decide), if_neg (by decide), if_neg (by decide), if_neg (by decide), if_neg (by decide), if_neg (by decide), if_neg (by decide), if_pos rfl, if_neg (hq.2 rfl)]]
    exact gate_ h hc a b c hS.kept hS.len5 hS.el8 (by simp [row, rows] at a0; omega) b0 (by rw [hl]; simp [needs]; omega) (hq.2 rfl) rm
  · obtain ⟨x, rfl⟩ := List.length_eq_one_iff.1 (by rw [hl]; simp [needs] : l.length = 1)
    rw [show Mach.act wdoT P len ⟨rm, data, told, C.map Prod.fst⟩ f (F.map Prod.fst) 13 a b c [x] = back ⟨rm, data, told, C.map Prod.fst⟩ f (F.map Prod.fst) x by
      unfold Mach.act
      rw [if_neg (by decide), if_neg (by decide), if_neg (by decide), if_neg (by decide), if_neg (by decide), if_neg (by decide), if_neg (by decide), if_neg (by decide), if_neg (by decide), if_neg (by decide), if_neg (by decide), if_neg (by decide), if_pos rfl]
      cases F <;> rfl]
    exact ret_ x h hc hw a b c hF hws hn hC rm
  · obtain ⟨x, rfl⟩ := List.length_eq_one_iff.1 (by rw [hl]; simp [needs] : l.length = 1)
    rw [show Mach.act wdoT P len ⟨rm, data, told, C.map Prod.fst⟩ f (F.map Prod.fst) 14 a b c [x] = if told.length < 500 then puts ⟨rm, data, told ++ [x], C.map Prod.fst⟩ f (F.map Prod.fst) [] else ends 6 0 ⟨rm, data, told, C.map Prod.fst⟩ by simp [Mach.act]]
    exact tell_ x h hc hw a b c ht rm
  · obtain rfl : l = [] := List.eq_nil_of_length_eq_zero (by rw [hl]; simp [needs])
    rw [show Mach.act wdoT P len ⟨rm, data, told, C.map Prod.fst⟩ f (F.map Prod.fst) 15 a b c [] = ends 2 0 ⟨rm, data, told, C.map Prod.fst⟩ by simp [Mach.act]]
    exact trap h hc hw a b c rm
end

/-- what holds of a run between two steps -/
structure Fit (len : Nat) (s : St) : Prop where
  room : s.rooms ≠ []
  few : s.rooms.length ≤ 20
  fr : ∀ f ∈ s.rooms, f.part < len ∧ f.words.length ≤ 40 ∧ ∀ k, f.noted = some k → k < s.calls.length
  told : s.told.length ≤ 500
  calls : s.calls.length ≤ 100

theorem puts_good {len : Nat} {s s' : St} {f : Fr} {rest : List Fr} {back : List Int} (h : puts s f rest back = .inr s') (hf : f.part < len ∧ ∀ k, f.noted = some k → k < s.calls.length) (hr : ∀ g ∈ rest, g.part < len ∧ g.words.length ≤ 40 ∧ ∀ k, g.noted = some k → k < s.calls.length) (hl : rest.length + 1 ≤ 20) (ht : s.told.length ≤ 500) (hc : s.calls.length ≤ 100) : Fit len s' := by
  unfold puts at h
  split at h
  · injection h with h
    subst h
    refine ⟨by simp, by simpa using hl, fun g hg => ?_, ht, hc⟩
    rcases List.mem_cons.1 hg with rfl | hg
    · exact ⟨hf.1, by simpa using ‹_›, hf.2⟩
    · exact hr g hg
  · cases h
end Go.Proofs.YtmbbkabecipkaacDoor.ActQ
