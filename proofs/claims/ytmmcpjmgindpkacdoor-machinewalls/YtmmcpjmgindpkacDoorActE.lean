/-
  WHAT mach.do GIVES, an instruction each (but for Call and a Gate that goes through).
  Conditions: the run lies there, with the words that were taken.
-/
import Derived.Test.YtmmcpjmgindpkacDoorRet
import Derived.Test.YtmmcpjmgindpkacDoorGate
import Derived.Test.YtmmcpjmgindpkacDoorActA
namespace Go.Proofs.YtmmcpjmgindpkacDoor.ActE
open Go.RowKit Tab Go.Proofs.YtmmcpjmgindpkacDoor.Check Lists Img Mach Own Go.Proofs.YtmmcpjmgindpkacDoor.Inv Go.Proofs.YtmmcpjmgindpkacDoor.Frame Take Go.Proofs.YtmmcpjmgindpkacDoor.Went Go.Proofs.YtmmcpjmgindpkacDoor.Look ActA Ret

section
variable {own : Nat → Tag} {w1 w w' : World} {R D g cap : Nat} {pS lS vF vT vC : Value} {fuel : Int} {f : Fr} {v tv : Value} {F : List (Fr × Value)} {l data told : List Int} {C : List (Rec × Value)} {gL len capL : Nat} {P : Nat → PartD}

/-- P4.5, plain -/
def back (s : St) (f : Fr) (rest : List Fr) (x : Int) : (Int × Int × St) ⊕ St :=
  match rest with
  | [] => ends 1 x (match f.noted with | none => s | some k => { s with calls := s.calls.modify k fun r => { r with done := true, value := x } })
  | g :: rest' => puts (match f.noted with | none => s | some k => { s with calls := s.calls.modify k fun r => { r with done := true, value := x } }) g rest' [x]

theorem ret (h : Inv own w1 w R D pS lS (.slice (some ⟨g, 0, none⟩) (F.length + 1) cap) vT vC fuel ((f, v) :: F) l data told C) (hF : F.length + 1 ≤ 20) (hw : ∀ p ∈ F, p.1.words.length ≤ 40) (hn : ∀ k, f.noted = some k → k < C.length) (hC : C.length ≤ 100) (x : Int) (rm : List Fr) :
    Calls Tryd.prog 50 #[.pointer (some ⟨R, 0, none⟩), .int .i64 x] w fun e w' => Went w1 R D pS lS fuel e w' (back ⟨rm, data, told, C.map Prod.fst⟩ f (F.map Prod.fst) x) := by
  obtain ⟨g', cap', e, _, hc1, hc2⟩ := h.frames.form (by simp)
  simp only [List.length_cons, Value.slice.injEq, Option.some.injEq, Addr.mk.injEq, and_true, true_and] at e
  obtain ⟨rfl, rfl⟩ := e
  simp only [List.length_cons] at hc1
  match hno : f.noted with
  | none =>
    match F, h, hF, hw, hc1 with
    | [], h, hF, hw, hc1 =>
      refine (ret_last (by simpa using h) hno x (by simpa using hc1) hc2).mono ?_
      rintro e w' ⟨rfl, h'⟩
      simp only [back, List.map_nil, hno]
      exact went_end h' ⟨rfl, rfl, rfl⟩
    | (f2, v2) :: F2, h, hF, hw, hc1 =>
      refine (ret_more (by simpa using h) hno x (by simpa using hc1) hc2 (by simpa using hF) (hw (f2, v2) (by simp)) rm).mono ?_
      intro e w' h'
      simp only [back, List.map_cons, hno]
      exact h'
  | some k =>
    have hk := hn k hno
    obtain ⟨gC, capC, rfl, _, _⟩ := h.calls.form (by omega)
    match F, h, hF, hw, hc1 with
    | [], h, hF, hw, hc1 =>
      refine (retN_last (by simpa using h) hno hk hC x (by simpa using hc1) hc2).mono ?_
      rintro e w' ⟨rfl, h'⟩
      simp only [back, List.map_nil, hno]
      exact went_end h' ⟨rfl, rfl, (doneAt_map k x).symm⟩
    | (f2, v2) :: F2, h, hF, hw, hc1 =>
      refine (retN_more (by simpa using h) hno hk hC x (by simpa using hc1) hc2 (by simpa using hF) (hw (f2, v2) (by simp)) rm).mono ?_
      intro e w' h'
      simp only [back, List.map_cons, hno, ← doneAt_map]
      exact h'

/-- the parts that were handed in lie there as long as what lay there is as it was -/
def Kept (w1 : World) (R D : Nat) (ao : Option Addr) (len : Nat) (P : Nat → PartD) : Prop := ∀ w, (∀ b, b < w1.heap.size → b ≠ R → b ≠ D → w.heap[b]? = w1.heap[b]?) → Parts w ao len P

theorem parts_of {ao : Option Addr} (h : Inv own w1 w R D pS lS vF vT vC fuel F l data told C) (hP : Kept w1 R D ao len P) : ∀ w', Below w.heap.size w w' → Parts w' ao len P :=
  fun w' hb => hP w' fun b h1 hR hD => (hb.block b (Nat.lt_of_lt_of_le h1 h.base.size)).trans (h.base.kept b h1 hR hD).2

theorem gate_fault {ao : Option Addr} {capP : Nat} (h : Inv own w1 w R D (.slice ao len capP) lS vF vT vC fuel F l data told C) (hP : Kept w1 R D ao len P) (hlen : len ≤ 5) (hel : ∀ k, k < len → (P k).el ≤ 8) (by_ : Nat) (op a b c : Int) (ha : 0 ≤ a) (hb : 0 ≤ b) (n : Nat) (hc : c = n) (ta : Option Addr) (tc : Nat)
    (hno : ¬ (a < len ∧ b < (P a.toNat).el ∧ (P a.toNat).prs b.toNat = c)) :
    Calls Tryd.prog 49 #[.pointer (some ⟨R, 0, none⟩), .int .i64 by_, .agg #[.int .i64 op, .int .i64 a, .int .i64 b, .int .i64 c], .slice ta n tc] w fun e w' => e = .returned (.int .i64 4) ∧ Below w.heap.size w w' := by
  have c0 : w.cell? ⟨R, 0, none⟩ = some (.slice ao len capP) := h.run.cell 0 rfl
  by_cases hy : (0 ≤ a ∧ a < len) ∧ (0 ≤ b ∧ b < (P a.toNat).el)
  · obtain ⟨k, rfl⟩ : ∃ k : Nat, a = k := ⟨a.toNat, by omega⟩
    obtain ⟨i, rfl⟩ : ∃ i : Nat, b = i := ⟨b.toNat, by omega⟩
    simp only [Int.toNat_natCast] at hy hno
    subst hc
    exact Gate.gate_count ao len capP hlen P R by_ k i n (by omega) (by omega) (hel k (by omega)) op n ta tc w c0 (parts_of h hP) (fun e => hno ⟨by omega, by omega, e⟩)
  · exact Gate.gate_no ao len capP hlen P hel R by_ op a b c _ w c0 (parts_of h hP) hy

set_option maxRecDepth 100000 in
set_option maxHeartbeats 1000000 in
theorem ret_ (x : Int) (h : Inv own w1 w R D pS lS (.slice (some ⟨g, 0, none⟩) (F.length + 1) cap) vT vC fuel ((f, v) :: F) [x] data told C) (hc : Cut v tv 1) (_hw : f.words.length ≤ 40) (a b c : Int) (hF : F.length + 1 ≤ 20) (hws : ∀ p ∈ F, p.1.words.length ≤ 40) (hn : ∀ k, f.noted = some k → k < C.length) (hC : C.length ≤ 100) (rm : List Fr) :
    Calls Tryd.prog 39 #[.pointer (some ⟨R, 0, none⟩), .pointer (some ⟨g, F.length * 12, none⟩), .agg #[.int .i64 13, .int .i64 a, .int .i64 b, .int .i64 c], tv] w fun e w' => Went w1 R D pS lS fuel e w' (back ⟨rm, data, told, C.map Prod.fst⟩ f (F.map Prod.fst) x) := by
  have hI := h.alloc (.cells #[.int .i64 13, .int .i64 a, .int .i64 b, .int .i64 c] 27)
  obtain ⟨ta, tc, rfl, hcell⟩ := h.rooms.1.1.cut hc
  obtain ⟨gw0, rfl, cx0⟩ := hcell 0 x rfl
  have hgw : gw0 < w.heap.size := World.block_lt_of_cell? w _ cx0
  have u0 : ∀ o, (w.alloc o).cell? ⟨gw0, f.words.length, none⟩ = some (.int .i64 x) := fun o => (World.cell?_alloc_past o _ _ hgw).trans cx0
  have k50 : ∀ W, Inv own w1 W R D pS lS (.slice (some ⟨g, 0, none⟩) (F.length + 1) cap) vT vC fuel ((f, v) :: F) [x] data told C → _ := fun W hI => ret hI hF hws hn hC x rm
  obtain ⟨k, hk⟩ : ∃ k, k = f.words.length := ⟨_, rfl⟩
  rw [← hk] at u0
  obtain ⟨out, hout⟩ : ∃ o, o = back ⟨rm, data, told, C.map Prod.fst⟩ f (F.map Prod.fst) x := ⟨_, rfl⟩
  rw [← hout] at k50 ⊢
  rw [← hk]
  have K50 : Hid _ := k50
  have HI : Hid _ := hI
  clear h hI k50 _hw hc hk hout hcell hF hws hn hC
  go_enter Tryd.func39, Tryd.ntmps39
  go_wp2_with (go_at_call 50; refine (K50.out _ (by exact HI.out)).mono ?_; intro e w' hwent; obtain ⟨n', rfl⟩ := went_ret hwent)
  go_ret
  exact hwent

set_option maxRecDepth 100000 in
set_option maxHeartbeats 1000000 in
theorem gate_ {ao : Option Addr} {capP : Nat} (h : Inv own w1 w R D (.slice ao len capP) lS (.slice (some ⟨g, 0, none⟩) (F.length + 1) cap) vT vC fuel ((f, v) :: F) l data told C) (hc : Cut v tv l.length) (a b c : Int) (hP : Kept w1 R D ao len P) (hlen : len ≤ 5) (hel : ∀ k, k < len → (P k).el ≤ 8) (ha : 0 ≤ a) (hb : 0 ≤ b) (hcl : c = l.length) (hno : ¬ (a < len ∧ b < (P a.toNat).el ∧ (P a.toNat).prs b.toNat = c)) (rm : List Fr) :
    Calls Tryd.prog 39 #[.pointer (some ⟨R, 0, none⟩), .pointer (some ⟨g, F.length * 12, none⟩), .agg #[.int .i64 12, .int .i64 a, .int .i64 b, .int .i64 c], tv] w fun e w' => Went w1 R D (.slice ao len capP) lS fuel e w' (ends 4 0 ⟨rm, data, told, C.map Prod.fst⟩) := by
  have hI := h.alloc (.cells #[.int .i64 12, .int .i64 a, .int .i64 b, .int .i64 c] 27)
  obtain ⟨ta, tc, rfl, hcell⟩ := h.rooms.1.1.cut hc
  have c0 : ∀ o, (w.alloc o).cell? ⟨g, F.length * 12, none⟩ = some (.int .i64 f.part) := fun o => (h.alloc o).top_cell 0 rfl
  have k49 : ∀ W, Inv own w1 W R D (.slice ao len capP) lS (.slice (some ⟨g, 0, none⟩) (F.length + 1) cap) vT vC fuel ((f, v) :: F) l data told C → Calls Tryd.prog 49 #[.pointer (some ⟨R, 0, none⟩), .int .i64 f.part, .agg #[.int .i64 12, .int .i64 a, .int .i64 b, .int .i64 c], .slice ta l.length tc] W fun e w' => Went w1 R D (.slice ao len capP) lS fuel e w' (ends 4 0 ⟨rm, data, told, C.map Prod.fst⟩) := by
    intro W hI
    refine (gate_fault hI hP hlen hel f.part 12 a b c ha hb l.length hcl ta tc hno).mono ?_
    rintro e w' ⟨rfl, hbw⟩
    exact went_end (hI.moves (Moves.below hbw (fun _ _ => rfl) _)).fin ⟨rfl, rfl, rfl⟩
  obtain ⟨out, hout⟩ : ∃ o, o = ends 4 0 ⟨rm, data, told, C.map Prod.fst⟩ := ⟨_, rfl⟩
  rw [← hout] at k49 ⊢
  obtain ⟨n, hn⟩ : ∃ n, n = l.length := ⟨_, rfl⟩
  obtain ⟨q, hq⟩ : ∃ q, q = f.part := ⟨_, rfl⟩
  rw [← hn] at k49 ⊢
  rw [← hq] at k49 c0
  have K49 : Hid _ := k49
  have HI : Hid _ := hI
  clear h hI k49 hc hout hcell hP hlen hel ha hb hcl hno hn hq
  go_enter Tryd.func39, Tryd.ntmps39
  go_wp2
  go_region_with ((go_at_call 49; refine (K49.out _ (by exact Inv.same HI.out rfl rfl rfl rfl)).mono ?_; intro e w' hwent; obtain ⟨n', rfl⟩ := went_ret hwent))
  all_goals
    go_wp2
    go_ret
    exact hwent
end
end Go.Proofs.YtmmcpjmgindpkacDoor.ActE
