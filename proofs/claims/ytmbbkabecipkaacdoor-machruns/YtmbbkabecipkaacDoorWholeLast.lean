/-
  THE LAW 'barbicanlaw.MachRuns' IS TRUE AT EVERY INPUT: mach.Run answers what the document's answer to P4.1 says, for every image, all data, every part, entry, list of words and fuel, and leaves the data as it was; the call returns true and all arguments read as they did.
  Conditions: none beyond the row's own (the table 'code.bounds' reads as its initialiser lays it: the card ties that to the program's text).
  WHAT sameInts AND sameOutcome GIVE: lists of the same numbers are the same; what came of two runs that gave the same is the same.
  Conditions: each contract's own hypotheses (what is compared lies there).
  WHAT THE DOCUMENT'S RunOf REFUSES: what mach.Run refuses, with the same number; and that both give the same (P4.1).
  Conditions: the image's parts, the data and the words lie there (and the table 'code.bounds', for mach.Run).
  THE WALK OF THE LAW MachRuns: mach.Run and the document's RunOf answer the same, and the data that was handed in stays as it was.
  Conditions: the image's parts, the data, the words and the table 'code.bounds' lie there.
  AN IMAGE AND A LIST OF NUMBERS THAT ARE HANDED IN, OPENED: each part, instruction, entry and number lies where it is looked for.
  Conditions: the argument reads as its type says.
-/
import Derived.Test.YtmbbkabecipkaacDoorWhole50
import Derived.Test.YtmbbkabecipkaacDoorWhole51
import Derived.Test.YtmbbkabecipkaacDoorWhole22
import Derived.Test.YtmbbkabecipkaacDoorWhole18
import Derived.Deep.OwnRows
import Derived.Test.YtmbbkabecipkaacDoorWhole2
import Derived.Deep.Slices
import Derived.Lib.SmallJoins
import Derived.OpenShut
import Derived.Test.YtmbbkabecipkaacDoorCards
import Derived.Test.YtmbbkabecipkaacDoorTie
import Derived.Stop.Joined
import Derived.SizedLaws
namespace Go.Proofs.YtmbbkabecipkaacDoor.Outcome
open Go.RowKit Tab Go.Proofs.YtmbbkabecipkaacDoor.Check Lists Go.Proofs.YtmbbkabecipkaacDoor.Read Img Mach Own Go.Proofs.YtmbbkabecipkaacDoor.Inv RunBad RunNot MRun ActQ RStart

set_option maxHeartbeats 1000000 in
theorem same (w : World) (ao ao' : Option Addr) (n c c' : Nat) (z : Nat → Int) (hn : n ≤ maxLen) (h : Ints w ao n z) (h' : Ints w ao' n z) :
    Calls Tryd.prog 17 #[.slice ao n c, .slice ao' n c'] w fun e w' => e = .returned (.bool true) ∧ Below w.heap.size w w' := by
  unfold maxLen at hn
  have hnI : (n : Int) ≤ 9223372036854775807 := by omega
  have H : Hid _ := h
  have H' : Hid _ := h'
  clear h h' hn
  go_enter Tryd.func17, Tryd.ntmps17
  go_wp2
  go_loopw [5] (fun i wr => ∃ k : Nat, k ≤ n ∧ i = .int .i64 k ∧ Below w.heap.size w wr) (fun i _ => n - (intOf i).toNat)
  case atStart => exact ⟨0, Nat.zero_le _, rfl, Below.refl _ _⟩
  case round =>
    obtain ⟨k, hk, rfl, hbel⟩ := hrel
    by_cases hkn : k < n
    · have hkI : (k : Int) < n := by omega
      obtain ⟨bl, off, rfl, q⟩ := Ints_below H.out hbel k hkn
      obtain ⟨bl', off', rfl, q'⟩ := Ints_below H'.out hbel k hkn
      have s := q k hkn
      have s' := q' k hkn
      clear q q' H H'
      go_wp2
      go_quiet (fail)
      go_wp2
      go_roundw
      case rel => exact ⟨k + 1, by omega, by go_num, ⟨hbel.os, hbel.tape, hbel.output, hbel.size, hbel.block⟩⟩
      case measure => simp [intOf]; omega
    · obtain rfl : k = n := by omega
      clear H H'
      go_wp2
      go_ret
      exact ⟨rfl, hbel⟩

/-- a row of one's own: its numbers lie there -/
theorem owned_ints {w : World} {B : Nat} {v : Value} {l : List Int} (h : w.ownsRow B 3 1 v l.length (ints l)) : ∃ da dcap, v = .slice da l.length dcap ∧ l.length ≤ maxLen ∧ Ints w da l.length (fun i => l.getD i 0) := by
  rcases h.2 with ⟨rfl, h0⟩ | ⟨g, cap, cur, rfl, _, _, hc, hm, _⟩
  · exact ⟨none, 0, by rw [h0], by rw [h0]; exact Nat.zero_le _, fun k hk => absurd hk (by omega)⟩
  · refine ⟨_, _, rfl, by omega, fun k hk => ⟨g, 0, rfl, fun j hj => ?_⟩⟩
    rw [Nat.zero_add]
    exact (h.cellAt j (by omega)).trans (by simp [ints, List.getD_eq_getElem?_getD, List.getElem?_eq_getElem hj])

/-- a call that was noted, as its seven cells -/
theorem rec_cells {w : World} {B g c : Nat} {C : List (Rec × Value)} (h : w.ownsRow B 76 7 (.slice (some ⟨g, 0, none⟩) C.length c) C.length (flatC C)) {k : Nat} {r : Rec} {v : Value} (hk : C[k]? = some (r, v)) :
    w.cell? ⟨g, k * 7, none⟩ = some (.int .i64 r.by_) ∧ w.cell? ⟨g, k * 7 + 1, none⟩ = some (.int .i64 r.part) ∧ w.cell? ⟨g, k * 7 + 2, none⟩ = some (.int .i64 r.entry) ∧ w.cell? ⟨g, k * 7 + 3, none⟩ = some (v) ∧ w.cell? ⟨g, k * 7 + 4, none⟩ = some (.int .i64 r.deep) ∧ w.cell? ⟨g, k * 7 + 5, none⟩ = some (.bool r.done) ∧ w.cell? ⟨g, k * 7 + 6, none⟩ = some (.int .i64 r.value) := by
  have hkl : k < C.length := (List.getElem?_eq_some_iff.1 hk).1
  have at_ : ∀ j (u : Value), j < 7 → (recCells r v)[j]? = some u → w.cell? ⟨g, k * 7 + j, none⟩ = some u := fun j u hj hu => (h.cellAt (k * 7 + j) (by omega)).trans ((flatC_at hj hk).trans hu)
  exact ⟨at_ 0 _ (by decide) rfl, at_ 1 _ (by decide) rfl, at_ 2 _ (by decide) rfl, at_ 3 _ (by decide) rfl, at_ 4 _ (by decide) rfl, at_ 5 _ (by decide) rfl, at_ 6 _ (by decide) rfl⟩

/-- two outcomes lie there, boxed -/
def two (w : World) (e v : Int) (a b c a' b' c' : Value) : World := (w.alloc (.cells #[.int .i64 e, .int .i64 v, a, b, c] 41)).alloc (.cells #[.int .i64 e, .int .i64 v, a', b', c'] 41)

theorem two_below (w : World) (e v : Int) (a b c a' b' c' : Value) : Below w.heap.size w (two w e v a b c a' b' c') := below2 w _ _

theorem two_cells {w W : World} {e v : Int} {a b c a' b' c' : Value} (hb : Below (two w e v a b c a' b' c').heap.size (two w e v a b c a' b' c') W) :
    (W.cell? ⟨w.heap.size, 3, none⟩ = some b ∧ W.cell? ⟨w.heap.size, 4, none⟩ = some c) ∧ (W.cell? ⟨w.heap.size + 1, 3, none⟩ = some b' ∧ W.cell? ⟨w.heap.size + 1, 4, none⟩ = some c') := by
  have h0 : ∀ i : Nat, (⟨w.heap.size, i, none⟩ : Addr).block < (two w e v a b c a' b' c').heap.size := fun i => by simp [two]; omega
  have h1 : ∀ i : Nat, (⟨w.heap.size + 1, i, none⟩ : Addr).block < (two w e v a b c a' b' c').heap.size := fun i => by simp [two]
  refine ⟨⟨(hb.cell (h0 3)).trans ?_, (hb.cell (h0 4)).trans ?_⟩, ⟨(hb.cell (h1 3)).trans ?_, (hb.cell (h1 4)).trans ?_⟩⟩
  · exact (World.cell?_alloc_past _ _ _ (by simp)).trans (by simp)
  · exact (World.cell?_alloc_past _ _ _ (by simp)).trans (by simp)
  · simp [two]
  · simp [two]

theorem same_at {C C' : List (Rec × Value)} (h : C.map Prod.fst = C'.map Prod.fst) {k : Nat} (hk : k < C.length) : ∃ r v v', C[k]? = some (r, v) ∧ C'[k]? = some (r, v') := by
  have hl : C.length = C'.length := by simpa using congrArg List.length h
  have e : (C.map Prod.fst)[k]? = (C'.map Prod.fst)[k]? := by rw [h]
  rw [List.getElem?_map, List.getElem?_map, List.getElem?_eq_getElem hk, List.getElem?_eq_getElem (by omega)] at e
  simp only [Option.map_some, Option.some.injEq] at e
  refine ⟨C[k].1, C[k].2, (C'[k]'(by omega)).2, List.getElem?_eq_getElem hk, ?_⟩
  rw [List.getElem?_eq_getElem (by omega), e]

set_option maxRecDepth 100000 in
set_option maxHeartbeats 4000000 in
theorem sameOutcome (B : Nat) (e v : Int) (vT vD vC vT' vD' vC' : Value) (s : St) (w : World) (h : Out B w vT vD vC s) (h' : Out B w vT' vD' vC' s) :
    Calls Tryd.prog 16 #[.agg #[.int .i64 e, .int .i64 v, vT, vD, vC], .agg #[.int .i64 e, .int .i64 v, vT', vD', vC']] w fun e w' => e = .returned (.bool true) ∧ Below w.heap.size w w' := by
  obtain ⟨aT, cT, rfl, mT, iT⟩ := owned_ints h.told
  obtain ⟨aT', cT', rfl, _, iT'⟩ := owned_ints h'.told
  obtain ⟨aD, cD, rfl, mD, iD⟩ := owned_ints h.data
  obtain ⟨aD', cD', rfl, _, iD'⟩ := owned_ints h'.data
  obtain ⟨C, eC, oC, nC⟩ := h.calls
  obtain ⟨C', eC', oC', nC'⟩ := h'.calls
  have eCC : C.map Prod.fst = C'.map Prod.fst := eC.trans eC'.symm
  have hlen : C'.length = C.length := by simpa using congrArg List.length eCC.symm
  obtain ⟨aC, cC, rfl, mC⟩ : ∃ a c, vC = .slice a C.length c ∧ C.length ≤ maxLen := by
    rcases oC.2 with ⟨rfl, h0⟩ | ⟨g, cap, cur, rfl, _, _, hc, hm, _⟩
    · exact ⟨none, 0, by rw [h0], by rw [h0]; exact Nat.zero_le _⟩
    · exact ⟨_, _, rfl, by omega⟩
  obtain ⟨aC', cC', rfl⟩ : ∃ a c, vC' = .slice a C'.length c := by
    rcases oC'.2 with ⟨rfl, h0⟩ | ⟨g, cap, cur, rfl, _⟩
    · exact ⟨none, 0, by rw [h0]⟩
    · exact ⟨_, _, rfl⟩
  have form : ∀ k, k < C.length → ∃ g, aC = some ⟨g, 0, none⟩ := fun k hk => by
    rcases oC.2 with ⟨_, h0⟩ | ⟨g, cap, cur, hv, _⟩
    · omega
    · cases hv
      exact ⟨g, rfl⟩
  have form' : ∀ k, k < C.length → ∃ g, aC' = some ⟨g, 0, none⟩ := fun k hk => by
    rcases oC'.2 with ⟨_, h0⟩ | ⟨g, cap, cur, hv, _⟩
    · omega
    · cases hv
      exact ⟨g, rfl⟩
  have kT : ∀ W, Below w.heap.size w W → _ := fun W hb => same W aT aT' s.told.length cT cT' _ mT (Ints_below iT hb) (Ints_below iT' hb)
  have kD : ∀ W, Below w.heap.size w W → _ := fun W hb => same W aD aD' s.data.length cD cD' _ mD (Ints_below iD hb) (Ints_below iD' hb)
  obtain ⟨nT, enT⟩ : ∃ n, n = s.told.length := ⟨_, rfl⟩
  obtain ⟨nD, enD⟩ : ∃ n, n = s.data.length := ⟨_, rfl⟩
  rw [← enT] at kT ⊢
  rw [← enD] at kD ⊢
  rw [hlen] at oC' ⊢
  obtain ⟨n, en⟩ : ∃ n, n = C.length := ⟨_, rfl⟩
  rw [← en] at mC ⊢
  unfold maxLen at mC
  have mI : (n : Int) ≤ 9223372036854775807 := by omega
  have recs : ∀ k W, k < n → Below w.heap.size w W → ∃ (g g' : Nat) (r : Rec) (al al' : Option Addr) (na c c' : Nat), aC = some ⟨g, 0, none⟩ ∧ aC' = some ⟨g', 0, none⟩ ∧ (W.cell? ⟨g, k * 7, none⟩ = some (.int .i64 r.by_) ∧ W.cell? ⟨g, k * 7 + 1, none⟩ = some (.int .i64 r.part) ∧ W.cell? ⟨g, k * 7 + 2, none⟩ = some (.int .i64 r.entry) ∧ W.cell? ⟨g, k * 7 + 3, none⟩ = some (.slice al na c) ∧ W.cell? ⟨g, k * 7 + 4, none⟩ = some (.int .i64 r.deep) ∧ W.cell? ⟨g, k * 7 + 5, none⟩ = some (.bool r.done) ∧ W.cell? ⟨g, k * 7 + 6, none⟩ = some (.int .i64 r.value)) ∧
      (W.cell? ⟨g', k * 7, none⟩ = some (.int .i64 r.by_) ∧ W.cell? ⟨g', k * 7 + 1, none⟩ = some (.int .i64 r.part) ∧ W.cell? ⟨g', k * 7 + 2, none⟩ = some (.int .i64 r.entry) ∧ W.cell? ⟨g', k * 7 + 3, none⟩ = some (.slice al' na c') ∧ W.cell? ⟨g', k * 7 + 4, none⟩ = some (.int .i64 r.deep) ∧ W.cell? ⟨g', k * 7 + 5, none⟩ = some (.bool r.done) ∧ W.cell? ⟨g', k * 7 + 6, none⟩ = some (.int .i64 r.value)) ∧
      ∀ W', Below W.heap.size W W' → Calls Tryd.prog 17 #[.slice al na c, .slice al' na c'] W' fun e w' => e = .returned (.bool true) ∧ Below W'.heap.size W' w' := by
    intro k W hk hb
    obtain ⟨g, rfl⟩ := form k (by omega)
    obtain ⟨g', rfl⟩ := form' k (by omega)
    obtain ⟨r, v, v', hr, hr'⟩ := same_at eCC (k := k) (by omega)
    obtain ⟨al, c, rfl, ma, ia⟩ := owned_ints (nC k r v hr)
    obtain ⟨al', c', rfl, _, ia'⟩ := owned_ints (nC' k r v' hr')
    have h1 := rec_cells (owns_below oC hb) hr
    have h2 := rec_cells (C := C') (by rw [hlen]; exact owns_below oC' hb) hr'
    exact ⟨g, g', r, al, al', r.args.length, c, c', rfl, rfl, h1, h2, fun W' hb' => same W' al al' _ c c' _ ma (Ints_below ia (hb.trans (hb'.mono hb.size))) (Ints_below ia' (hb.trans (hb'.mono hb.size)))⟩
  have bx : ∀ W, Below (two w e v (.slice aT nT cT) (.slice aD nD cD) (.slice aC n cC) (.slice aT' nT cT') (.slice aD' nD cD') (.slice aC' n cC')).heap.size (two w e v (.slice aT nT cT) (.slice aD nD cD) (.slice aC n cC) (.slice aT' nT cT') (.slice aD' nD cD') (.slice aC' n cC')) W → _ := fun W hb => two_cells hb
  have up := two_below w e v (.slice aT nT cT) (.slice aD nD cD) (.slice aC n cC) (.slice aT' nT cT') (.slice aD' nD cD') (.slice aC' n cC')
  have ew : (w.alloc (.cells #[.int .i64 e, .int .i64 v, .slice aT nT cT, .slice aD nD cD, .slice aC n cC] 41)).alloc (.cells #[.int .i64 e, .int .i64 v, .slice aT' nT cT', .slice aD' nD cD', .slice aC' n cC'] 41) = two w e v (.slice aT nT cT) (.slice aD nD cD) (.slice aC n cC) (.slice aT' nT cT') (.slice aD' nD cD') (.slice aC' n cC') := rfl
  generalize two w e v (.slice aT nT cT) (.slice aD nD cD) (.slice aC n cC) (.slice aT' nT cT') (.slice aD' nD cD') (.slice aC' n cC') = w0 at bx up ew
  have KT : Hid _ := kT
  have KD : Hid _ := kD
  have RECS : Hid _ := recs
  have BX : Hid _ := bx
  have UP : Hid _ := up
  have EW : Hid _ := ew
  clear kT kD recs bx up ew h h' iT iT' iD iD' mT mD oC oC' nC nC' eCC eC eC' hlen form form' enT enD en mC
  go_enter Tryd.func16, Tryd.ntmps16
  go_wp2_with (first
    | (go_at_call_of 17 (Value.slice aT nT cT); rw [EW.out]; refine (KT.out _ UP.out).mono ?_; rintro e w1 ⟨rfl, hb1⟩; obtain ⟨⟨q3, q4⟩, ⟨p3, p4⟩⟩ := BX.out _ hb1; have HB1 : Hid _ := hb1; clear hb1)
    | (go_at_call_of 17 (Value.slice aD nD cD); refine (KD.out _ (UP.out.trans (HB1.out.mono UP.out.size))).mono ?_; rintro e w2 ⟨rfl, hb2⟩; have HB2 : Hid _ := HB1.out.trans (hb2.mono HB1.out.size); clear hb2 q3 q4 p3 p4; obtain ⟨⟨q3, q4⟩, ⟨p3, p4⟩⟩ := BX.out _ HB2.out))
  clear q3 q4 p3 p4
  go_loopw [5] (fun i wr => ∃ k : Nat, k ≤ n ∧ i = .int .i64 k ∧ Below w0.heap.size w0 wr) (fun i _ => n - (intOf i).toNat)
  case atStart => exact ⟨0, Nat.zero_le _, rfl, HB2.out⟩
  case round =>
    obtain ⟨k, hk, rfl, hbel⟩ := hrel
    obtain ⟨⟨q3, q4⟩, ⟨p3, p4⟩⟩ := BX.out _ hbel
    by_cases hkn : k < n
    · have hkI : (k : Int) < n := by omega
      obtain ⟨g, g', r, al, al', na, c, c', rfl, rfl, ⟨t0, t1, t2, t3, t4, t5, t6⟩, ⟨u0, u1, u2, u3, u4, u5, u6⟩, kA⟩ := RECS.out k wr hkn (UP.out.trans (hbel.mono UP.out.size))
      generalize r.by_ = r0 at t0 u0
      generalize r.part = r1 at t1 u1
      generalize r.entry = r2 at t2 u2
      generalize r.deep = r4 at t4 u4
      generalize r.done = r5 at t5 u5
      generalize r.value = r6 at t6 u6
      have hb2 := below2 wr (.cells #[.int .i64 r0, .int .i64 r1, .int .i64 r2, .slice al na c, .int .i64 r4, .bool r5, .int .i64 r6] 76) (.cells #[.int .i64 r0, .int .i64 r1, .int .i64 r2, .slice al' na c', .int .i64 r4, .bool r5, .int .i64 r6] 76)
      have kA2 := kA _ hb2
      have HB : Hid _ := hbel
      have HB3 : Hid _ := hb2
      have b4 : wr.heap.size ≤ _ := hb2.size
      have u0' : ∀ o, (wr.alloc o).cell? ⟨g', k * 7, none⟩ = some (.int .i64 r0) := fun o => (World.cell?_alloc_past o _ _ (World.block_lt_of_cell? wr _ u0)).trans u0
      have u1' : ∀ o, (wr.alloc o).cell? ⟨g', k * 7 + 1, none⟩ = some (.int .i64 r1) := fun o => (World.cell?_alloc_past o _ _ (World.block_lt_of_cell? wr _ u1)).trans u1
      have u2' : ∀ o, (wr.alloc o).cell? ⟨g', k * 7 + 2, none⟩ = some (.int .i64 r2) := fun o => (World.cell?_alloc_past o _ _ (World.block_lt_of_cell? wr _ u2)).trans u2
      have u3' : ∀ o, (wr.alloc o).cell? ⟨g', k * 7 + 3, none⟩ = some (.slice al' na c') := fun o => (World.cell?_alloc_past o _ _ (World.block_lt_of_cell? wr _ u3)).trans u3
      have u4' : ∀ o, (wr.alloc o).cell? ⟨g', k * 7 + 4, none⟩ = some (.int .i64 r4) := fun o => (World.cell?_alloc_past o _ _ (World.block_lt_of_cell? wr _ u4)).trans u4
      have u5' : ∀ o, (wr.alloc o).cell? ⟨g', k * 7 + 5, none⟩ = some (.bool r5) := fun o => (World.cell?_alloc_past o _ _ (World.block_lt_of_cell? wr _ u5)).trans u5
      have u6' : ∀ o, (wr.alloc o).cell? ⟨g', k * 7 + 6, none⟩ = some (.int .i64 r6) := fun o => (World.cell?_alloc_past o _ _ (World.block_lt_of_cell? wr _ u6)).trans u6
      have p4' : ∀ o, (wr.alloc o).cell? ⟨w.heap.size + 1, 4, none⟩ = some (.slice (some ⟨g', 0, none⟩) n cC') := fun o => (World.cell?_alloc_past o _ _ (World.block_lt_of_cell? wr _ p4)).trans p4
      clear hbel hb2 kA b4 RECS KT KD BX EW u0 u1 u2 u3 u4 u5 u6 q3 p3
      go_wp2_with (go_at_call 17; refine kA2.mono ?_; rintro e w3 ⟨rfl, hb3⟩; have HB4 : Hid _ := hb3; clear hb3)
      go_roundw
      case rel => exact ⟨k + 1, by omega, by go_num, HB.out.trans ((HB3.out.trans (HB4.out.mono HB3.out.size)).mono HB.out.size)⟩
      case measure => simp [intOf]; omega
    · obtain rfl : k = n := by omega
      have HB : Hid _ := hbel
      clear hbel RECS KT KD BX EW
      go_wp2
      go_ret
      exact ⟨rfl, UP.out.trans (HB.out.mono UP.out.size)⟩
end Go.Proofs.YtmbbkabecipkaacDoor.Outcome

namespace Go.Proofs.YtmbbkabecipkaacDoor.RunRef
open Go.RowKit Tab Go.Proofs.YtmbbkabecipkaacDoor.Check Lists Go.Proofs.YtmbbkabecipkaacDoor.Read Img Mach Own Go.Proofs.YtmbbkabecipkaacDoor.Inv RunBad RunNot MRun ActQ RStart

theorem ref_bad (ao : Option Addr) (len cap : Nat) (hlen : len ≤ maxLen) (P : Nat → PartD) (da : Option Addr) (dlen dcap : Nat) (z : Nat → Int) (aa : Option Addr) (alen acap : Nat) (az : Nat → Int) (p en fuel : Int) (w : World) (hin : Parts w ao len P) (hd : Ints w da dlen z) (ha : Ints w aa alen az) (hr : MBad.runFault P len z dlen p en az alen fuel ≠ 0) :
    Calls Tryd.prog 15 #[.agg #[.slice ao len cap], .slice da dlen dcap, .int .i64 p, .int .i64 en, .slice aa alen acap, .int .i64 fuel] w fun e w' => e = .returned (.tuple #[.agg zero, .int .i64 (MBad.runFault P len z dlen p en az alen fuel)]) ∧ Below w.heap.size w w' := by
  unfold MBad.runFault at hr ⊢
  by_cases er : dataFault P len z dlen = 0
  · rw [if_pos er] at hr ⊢
    by_cases hno : (0 ≤ p ∧ p < len) ∧ (0 ≤ en ∧ en < (P p.toNat).el)
    · rw [if_pos hno] at hr ⊢
      obtain ⟨k, rfl⟩ : ∃ k : Nat, p = k := ⟨p.toNat, by omega⟩
      obtain ⟨j, rfl⟩ : ∃ j : Nat, en = j := ⟨en.toNat, by omega⟩
      simp only [Int.toNat_natCast] at hno hr ⊢
      have hk : k < len := by omega
      have hj : j < (P k).el := by omega
      by_cases hn : (alen : Int) = (P k).prs j
      · rw [if_pos hn] at hr ⊢
        by_cases hf : 0 ≤ fuel ∧ fuel ≤ 100000
        · rw [if_pos hf] at hr ⊢
          by_cases hw : first (fun i => wordFault (az i)) alen = 0
          · rw [if_pos hw] at hr
            exact absurd rfl hr
          · rw [if_neg hw]
            have hs := MCheck.part_sure (first_zero (imageFault_zero (dataFault_zero er).1).2 k hk)
            have he := MCheck.entry_sure (first_zero hs.2.2.2 j hj)
            exact RunInit.no_word ao len cap hlen P da dlen dcap z aa alen acap az k j fuel w hin hd ha er hk hj hn hf.1 hf.2 (by omega) hw
        · rw [if_neg hf]
          exact no_fuel ao len cap hlen P da dlen dcap z aa alen acap k j fuel w hin hd er hk hj hn hf
      · rw [if_neg hn]
        rcases (show (alen : Int) < (P k).prs j ∨ (P k).prs j < (alen : Int) by omega) with c | c
        · exact few ao len cap hlen P da dlen dcap z aa alen acap k j fuel w hin hd er hk hj c
        · exact many ao len cap hlen P da dlen dcap z aa alen acap k j fuel w hin hd er hk hj c
    · rw [if_neg hno]
      by_cases hp : 0 ≤ p ∧ p < len
      · obtain ⟨k, rfl⟩ : ∃ k : Nat, p = k := ⟨p.toNat, by omega⟩
        simp only [Int.toNat_natCast] at hno
        exact no_entry ao len cap hlen P da dlen dcap z aa alen acap k en fuel w hin hd er (by omega) (fun h => hno ⟨hp, h⟩)
      · exact no_part ao len cap hlen P da dlen dcap z aa alen acap p en fuel w hin hd er hp
  · rw [if_neg er]
    have hb0 := below2 w (.cells #[.slice ao len cap] 24) (.cells #[.int .i64 0, .int .i64 0, .slice none 0 0, .slice none 0 0, .slice none 0 0] 41)
    exact data_bad ao len cap da dlen dcap p en aa alen acap fuel _ (by simpa using er) w (Data.ref ao len cap hlen P da dlen dcap z _ (Parts_below hin hb0) (Ints_below hd hb0))

/-- what a run answers: an outcome and an error -/
structure Ans (w : World) (n v f : Int) (s : St) (e : Ending) (w' : World) : Prop where
  below : Below w.heap.size w w'
  out : ∃ vT vD vC, e = .returned (.tuple #[.agg #[.int .i64 n, .int .i64 v, vT, vD, vC], .int .i64 f]) ∧ Out w.heap.size w' vT vD vC s

theorem Ans.bad {w w' : World} {f : Int} (hb : Below w.heap.size w w') : Ans w 0 0 f ⟨[], [], [], []⟩ (.returned (.tuple #[.agg #[.int .i64 0, .int .i64 0, .slice none 0 0, .slice none 0 0, .slice none 0 0], .int .i64 f])) w' :=
  ⟨hb, _, _, _, rfl, World.ownsRow_nil _ _ _ _, World.ownsRow_nil _ _ _ _, [], rfl, World.ownsRow_nil _ _ _ _, fun k r v h => by simp at h⟩

theorem Ans.good {w w' : World} {r : Int × Int × St} {e : Ending} (h : Gave w r e w') : Ans w r.1 r.2.1 0 r.2.2 e w' := ⟨h.1, h.2⟩

theorem both (ao : Option Addr) (len cap : Nat) (hlen : len ≤ maxLen) (P : Nat → PartD) (data args : List Int) (aa : Option Addr) (acap : Nat) (hal : args.length ≤ maxLen) (p en fuel : Int) :
    ∃ (n v f : Int) (s : St), ∀ (da : Option Addr) (dcap : Nat) (w : World), Parts w ao len P → Ints w da data.length (fun i => data.getD i 0) → Ints w aa args.length (fun i => args.getD i 0) →
      (Lies w → Calls Tryd.prog 14 #[.agg #[.slice ao len cap], .slice da data.length dcap, .int .i64 p, .int .i64 en, .slice aa args.length acap, .int .i64 fuel] w (Ans w n v f s)) ∧
      Calls Tryd.prog 15 #[.agg #[.slice ao len cap], .slice da data.length dcap, .int .i64 p, .int .i64 en, .slice aa args.length acap, .int .i64 fuel] w (Ans w n v f s) := by
  by_cases hr : MBad.runFault P len (fun i => data.getD i 0) data.length p en (fun i => args.getD i 0) args.length fuel = 0
  · have hr' := hr
    unfold MBad.runFault at hr'
    by_cases er : dataFault P len (fun i => data.getD i 0) data.length = 0
    · rw [if_pos er] at hr'
      by_cases hno : (0 ≤ p ∧ p < len) ∧ (0 ≤ en ∧ en < (P p.toNat).el)
      · rw [if_pos hno] at hr'
        by_cases hn : (args.length : Int) = (P p.toNat).prs en.toNat
        · rw [if_pos hn] at hr'
          by_cases hf : 0 ≤ fuel ∧ fuel ≤ 100000
          · rw [if_pos hf] at hr'
            by_cases hw : first (fun i => wordFault (args.getD i 0)) args.length = 0
            · obtain ⟨k, rfl⟩ : ∃ k : Nat, p = k := ⟨p.toNat, by omega⟩
              obtain ⟨j, rfl⟩ : ∃ j : Nat, en = j := ⟨en.toNat, by omega⟩
              obtain ⟨m, rfl⟩ : ∃ m : Nat, fuel = m := ⟨fuel.toNat, by omega⟩
              simp only [Int.toNat_natCast] at hno hn
              have hk : k < len := by omega
              have hj : j < (P k).el := by omega
              have hs := MCheck.part_sure (first_zero (imageFault_zero (dataFault_zero er).1).2 k hk)
              have he := MCheck.entry_sure (first_zero hs.2.2.2 j hj)
              obtain ⟨pc, hpc⟩ : ∃ pc : Nat, (P k).ats j = pc := ⟨((P k).ats j).toNat, by omega⟩
              refine ⟨(run wdoT P len m ⟨[⟨k, pc, pad args, [], none⟩], data, [], []⟩).1, (run wdoT P len m ⟨[⟨k, pc, pad args, [], none⟩], data, [], []⟩).2.1, 0, (run wdoT P len m ⟨[⟨k, pc, pad args, [], none⟩], data, [], []⟩).2.2, fun da dcap w hin hd ha => ⟨fun hl => ?_, ?_⟩⟩
              · exact (MRunL.mrunL ao len cap hlen P da data dcap aa args acap k j m pc w hl hin hd ha er hk hj hn (by omega) hw hpc).mono fun e w' h => .good h
              · exact (runOf ao len cap hlen P da data dcap aa args acap k j m pc w hin hd ha er hk hj hn (by omega) hw hpc).mono fun e w' h => .good h
            · rw [if_neg hw] at hr'
              cases hr'
          · rw [if_neg hf] at hr'
            cases hr'
        · rw [if_neg hn] at hr'
          cases hr'
      · rw [if_neg hno] at hr'
        cases hr'
    · rw [if_neg er] at hr'
      exact absurd hr' er
  · refine ⟨0, 0, MBad.runFault P len (fun i => data.getD i 0) data.length p en (fun i => args.getD i 0) args.length fuel, ⟨[], [], [], []⟩, fun da dcap w hin hd ha => ⟨fun hl => ?_, ?_⟩⟩
    · refine (MBad.run_bad ao len cap hlen P da data.length dcap _ aa args.length acap _ p en fuel w hl hin hd ha hal _ rfl (by simpa using hr)).mono ?_
      rintro e w' ⟨rfl, hb⟩
      exact .bad hb
    · refine (ref_bad ao len cap hlen P da data.length dcap _ aa args.length acap _ p en fuel w hin hd ha hr).mono ?_
      rintro e w' ⟨rfl, hb⟩
      exact .bad hb

theorem row_form {w : World} {B : Nat} {e : TypeId} {size n : Nat} {v : Value} {xs : List Value} (h : w.ownsRow B e size v n xs) : ∃ a m c, v = .slice a m c := by
  rcases h.2 with ⟨h0, _⟩ | ⟨g, cap, cur, hv, _⟩
  · exact ⟨_, _, _, h0⟩
  · exact ⟨_, _, _, hv⟩

theorem calls_form {w : World} {B : Nat} {vT vD vC : Value} {s : St} (h : Out B w vT vD vC s) : ∃ a m c, vC = .slice a m c := by
  obtain ⟨C, _, h1, _⟩ := h.calls
  exact row_form h1

theorem row_mono {w : World} {B B' : Nat} {e : TypeId} {size n : Nat} {v : Value} {xs : List Value} (h : w.ownsRow B e size v n xs) (hB : B' ≤ B) : w.ownsRow B' e size v n xs := by
  refine ⟨h.1, ?_⟩
  rcases h.2 with h0 | ⟨g, cap, cur, hv, hg, rest⟩
  · exact .inl h0
  · exact .inr ⟨g, cap, cur, hv, Nat.le_trans hB hg, rest⟩

theorem out_mono {w : World} {B B' : Nat} {vT vD vC : Value} {s : St} (h : Out B w vT vD vC s) (hB : B' ≤ B) : Out B' w vT vD vC s := by
  obtain ⟨C, h1, h2, h3⟩ := h.calls
  exact ⟨row_mono h.told hB, row_mono h.data hB, C, h1, row_mono h2 hB, fun k r v hk => row_mono (h3 k r v hk) hB⟩

theorem out_alloc {w : World} {B : Nat} {vT vD vC : Value} {s : St} (h : Out B w vT vD vC s) (o : Obj) : Out B (w.alloc o) vT vD vC s := by
  obtain ⟨C, h1, h2, h3⟩ := h.calls
  exact ⟨h.told.alloc o, h.data.alloc o, C, h1, h2.alloc o, fun k r v hk => (h3 k r v hk).alloc o⟩

theorem out_below {B : Nat} {w w' : World} {vT vD vC : Value} {s : St} (h : Out B w vT vD vC s) (hb : Below w.heap.size w w') : Out B w' vT vD vC s := by
  obtain ⟨C, e, o, n⟩ := h.calls
  exact ⟨owns_below h.told hb, owns_below h.data hb, C, e, owns_below o hb, fun k r v hk => owns_below (n k r v hk) hb⟩

/-- a row of one's own holds its numbers -/
theorem copied_ints {w : World} {B dlen : Nat} {v : Value} {z : Nat → Int} (h : w.ownsRow B 3 1 v dlen (row z dlen)) : ∃ da dcap, v = .slice da dlen dcap ∧ Ints w da dlen z := by
  rcases h.2 with ⟨rfl, h0⟩ | ⟨g, cap, cur, rfl, _⟩
  · exact ⟨none, 0, by rw [h0], fun k hk => absurd hk (by omega)⟩
  · exact ⟨_, _, rfl, fun k hk => ⟨g, 0, rfl, fun j hj => by rw [Nat.zero_add]; exact (h.cellAt j (by omega)).trans (row_at z dlen j hj)⟩⟩
end Go.Proofs.YtmbbkabecipkaacDoor.RunRef

namespace Go.Proofs.YtmbbkabecipkaacDoor.MachWalk
open Go.RowKit Tab Go.Proofs.YtmbbkabecipkaacDoor.Check Lists Go.Proofs.YtmbbkabecipkaacDoor.Read Img Mach Own Go.Proofs.YtmbbkabecipkaacDoor.Inv RunBad RunNot MRun ActQ RStart Go.Proofs.YtmbbkabecipkaacDoor.Outcome RunRef

theorem box5 {w w' : World} {v0 v1 v2 v3 v4 : Value} {t : TypeId} (hb : Below (w.alloc (.cells #[v0, v1, v2, v3, v4] t)).heap.size (w.alloc (.cells #[v0, v1, v2, v3, v4] t)) w') :
    w'.cell? ⟨w.heap.size, 0, none⟩ = some v0 ∧ w'.cell? ⟨w.heap.size, 1, none⟩ = some v1 ∧ w'.cell? ⟨w.heap.size, 2, none⟩ = some v2 ∧ w'.cell? ⟨w.heap.size, 3, none⟩ = some v3 ∧ w'.cell? ⟨w.heap.size, 4, none⟩ = some v4 := by
  have h : ∀ i : Nat, (⟨w.heap.size, i, none⟩ : Addr).block < (w.alloc (.cells #[v0, v1, v2, v3, v4] t)).heap.size := fun i => by simp
  exact ⟨(hb.cell (h 0)).trans (by simp), (hb.cell (h 1)).trans (by simp), (hb.cell (h 2)).trans (by simp), (hb.cell (h 3)).trans (by simp), (hb.cell (h 4)).trans (by simp)⟩

theorem past5 {w : World} {b : Nat} {v0 v1 v2 v3 v4 : Value} (h : w.cell? ⟨b, 0, none⟩ = some v0 ∧ w.cell? ⟨b, 1, none⟩ = some v1 ∧ w.cell? ⟨b, 2, none⟩ = some v2 ∧ w.cell? ⟨b, 3, none⟩ = some v3 ∧ w.cell? ⟨b, 4, none⟩ = some v4) :
    (∀ o, (w.alloc o).cell? ⟨b, 0, none⟩ = some v0) ∧ (∀ o, (w.alloc o).cell? ⟨b, 1, none⟩ = some v1) ∧ (∀ o, (w.alloc o).cell? ⟨b, 2, none⟩ = some v2) ∧ (∀ o, (w.alloc o).cell? ⟨b, 3, none⟩ = some v3) ∧ (∀ o, (w.alloc o).cell? ⟨b, 4, none⟩ = some v4) := by
  have past : ∀ (i : Nat) (v : Value), w.cell? ⟨b, i, none⟩ = some v → ∀ o, (w.alloc o).cell? ⟨b, i, none⟩ = some v := fun i v h o => (World.cell?_alloc_past o _ _ (World.block_lt_of_cell? w _ h)).trans h
  exact ⟨past 0 _ h.1, past 1 _ h.2.1, past 2 _ h.2.2.1, past 3 _ h.2.2.2.1, past 4 _ h.2.2.2.2⟩

set_option maxRecDepth 100000 in
set_option maxHeartbeats 4000000 in
theorem walk (ao : Option Addr) (len cap : Nat) (hlen : len ≤ maxLen) (P : Nat → PartD) (da : Option Addr) (data : List Int) (dcap : Nat) (hby : data.length * 8 ≤ 140737488355328) (p en : Int) (aa : Option Addr) (args : List Int) (acap : Nat) (hal : args.length ≤ maxLen) (fuel : Int) (w : World) (hl : Lies w) (hin : Parts w ao len P) (hd : Ints w da data.length (fun i => data.getD i 0)) (ha : Ints w aa args.length (fun i => args.getD i 0)) :
    Calls Tryd.prog 4 #[.agg #[.slice ao len cap], .slice da data.length dcap, .int .i64 p, .int .i64 en, .slice aa args.length acap, .int .i64 fuel] w fun e w' => e = .returned (.bool true) ∧ Below w.heap.size w w' := by
  obtain ⟨n, v, f, s, K⟩ := both ao len cap hlen P data args aa acap hal p en fuel
  have k14 : ∀ W da dcap, Below w.heap.size w W → Ints W da data.length (fun i => data.getD i 0) → Calls Tryd.prog 14 #[.agg #[.slice ao len cap], .slice da data.length dcap, .int .i64 p, .int .i64 en, .slice aa args.length acap, .int .i64 fuel] W (Ans W n v f s) := fun W da dcap hb h => (K da dcap W (Parts_below hin hb) h (Ints_below ha hb)).1 (Lies_below hl hb)
  have k15 : ∀ W, Below w.heap.size w W → Calls Tryd.prog 15 #[.agg #[.slice ao len cap], .slice da data.length dcap, .int .i64 p, .int .i64 en, .slice aa args.length acap, .int .i64 fuel] W (Ans W n v f s) := fun W hb => (K da dcap W (Parts_below hin hb) (Ints_below hd hb) (Ints_below ha hb)).2
  have hb0 := below1 w (.cells #[.slice ao len cap] 24)
  have hd0 : Ints (w.alloc (.cells #[.slice ao len cap] 24)) da data.length (fun i => data.getD i 0) := Ints_below hd hb0
  have hmx : data.length ≤ maxLen := by unfold maxLen; omega
  obtain ⟨dlen, edl⟩ : ∃ n, n = data.length := ⟨_, rfl⟩
  obtain ⟨alen, eal⟩ : ∃ n, n = args.length := ⟨_, rfl⟩
  obtain ⟨z, ez⟩ : ∃ z : Nat → Int, z = fun i => data.getD i 0 := ⟨_, rfl⟩
  rw [← edl, ← eal, ← ez] at k14
  rw [← edl, ← eal] at k15 ⊢
  rw [← edl] at hby hmx
  rw [← edl, ← ez] at hd hd0
  have k17 : ∀ W ao' c', Below w.heap.size w W → Ints W ao' dlen z → _ := fun W ao' c' hb h => same W ao' da dlen c' dcap z hmx h (Ints_below hd hb)
  have K14 : Hid _ := k14
  have K15 : Hid _ := k15
  have K17 : Hid _ := k17
  have HB0 : Hid _ := hb0
  have HD0 : Hid _ := hd0
  clear K k14 k15 k17 hb0 hl hin hd hd0 ha hlen edl eal ez hal
  go_enter Tryd.func4, Tryd.ntmps4
  go_wp2_with (first
    | (at_builtin; refine wpList_copied rfl _ (.tmp 18) rfl rfl da dlen dcap z rfl HD0.out hmx hby w.heap.size HB0.out.size ?_; intro v3 w3 own3 grow3; have hb3 := HB0.out.grown grow3 HB0.out.size (by simp); have q3 : w3.cell? ⟨w.heap.size, 0, none⟩ = some (.slice ao len cap) := box1 ((Below.refl _ (w.alloc (.cells #[.slice ao len cap] 24))).grown grow3 (Nat.le_refl _) (by simp)); obtain ⟨vo, vcap, rfl, i3⟩ := copied_ints own3; have HB3 : Hid _ := hb3; have I3 : Hid _ := i3; clear hb3 i3 own3 grow3)
    | (go_at_call 14; refine (K14.out _ _ _ HB3.out I3.out).mono ?_; rintro e w5 ⟨hb5, vT, vD, vC, rfl, o5⟩; obtain ⟨aT, nT, cT, rfl⟩ := row_form o5.told; obtain ⟨aD, nD, cD, rfl⟩ := row_form o5.data; obtain ⟨aC, nC, cC, rfl⟩ := calls_form o5; have q5 := (hb5.cell (World.block_lt_of_cell? w3 _ q3)).trans q3; have q6 := fun o => (World.cell?_alloc_past o _ _ (World.block_lt_of_cell? w5 _ q5)).trans q5; have hb6 := (HB3.out.trans (hb5.mono HB3.out.size)).alloc (Nat.le_trans HB3.out.size hb5.size) (.cells #[.int .i64 n, .int .i64 v, .slice aT nT cT, .slice aD nD cD, .slice aC nC cC] 41); have HB6 : Hid _ := hb6; have HB5 : Hid _ := hb5; have O5 : Hid _ := o5; clear hb5 o5 q3 q5 hb6)
    | (go_at_call 15; refine (K15.out _ HB6.out).mono ?_; rintro e w7 ⟨hb7, vT', vD', vC', rfl, o7⟩; obtain ⟨aT', nT', cT', rfl⟩ := row_form o7.told; obtain ⟨aD', nD', cD', rfl⟩ := row_form o7.data; obtain ⟨aC', nC', cC', rfl⟩ := calls_form o7; obtain ⟨r0, r1, r2, r3, r4⟩ := past5 (box5 hb7); have hb8 := (HB6.out.trans (hb7.mono HB6.out.size)).alloc (Nat.le_trans HB6.out.size hb7.size) (.cells #[.int .i64 n, .int .i64 v, .slice aT' nT' cT', .slice aD' nD' cD', .slice aC' nC' cC'] 41); have HB8 : Hid _ := hb8; have O7 : Hid (Out w.heap.size w7 _ _ _ s) := out_mono o7 HB6.out.size; have O6 : Hid (Out w.heap.size w7 _ _ _ s) := out_mono (out_below (out_alloc O5.out (.cells #[.int .i64 n, .int .i64 v, .slice aT nT cT, .slice aD nD cD, .slice aC nC cC] 41)) hb7) HB3.out.size; have HB7 : Hid (Below w3.heap.size w3 (w7.alloc (.cells #[.int .i64 n, .int .i64 v, .slice aT' nT' cT', .slice aD' nD' cD', .slice aC' nC' cC'] 41))) := ((HB5.out.alloc HB5.out.size (.cells #[.int .i64 n, .int .i64 v, .slice aT nT cT, .slice aD nD cD, .slice aC nC cC] 41)).trans (hb7.mono (Nat.le_trans HB5.out.size (by simp)))).alloc (Nat.le_trans HB5.out.size (Nat.le_trans (by simp) hb7.size)) (.cells #[.int .i64 n, .int .i64 v, .slice aT' nT' cT', .slice aD' nD' cD', .slice aC' nC' cC'] 41); clear hb7 o7 q6 hb8)
    | (go_at_call 16; refine (sameOutcome w.heap.size n v _ _ _ _ _ _ s _ (out_alloc O6.out _) (out_alloc O7.out _)).mono ?_; rintro e w9 ⟨rfl, hb9⟩; have HB9 : Hid _ := hb9; clear hb9)
    | (go_at_call 17; refine (K17.out _ _ _ (HB8.out.trans (HB9.out.mono HB8.out.size)) (Ints_below I3.out (HB7.out.trans (HB9.out.mono HB7.out.size)))).mono ?_; rintro e w11 ⟨rfl, hb11⟩; have HB11 : Hid _ := hb11; clear hb11))
  go_ret
  exact ⟨rfl, (HB8.out.trans (HB9.out.mono HB8.out.size)).trans (HB11.out.mono (Nat.le_trans HB8.out.size HB9.out.size))⟩
end Go.Proofs.YtmbbkabecipkaacDoor.MachWalk

namespace Go.Proofs.YtmbbkabecipkaacDoor.Open
open Go.ChangeShapes Go.WideShapes Go.ChangeAt Go.RowKit Go.Joins Tab Go.Proofs.YtmbbkabecipkaacDoor.Check Lists Go.Proofs.YtmbbkabecipkaacDoor.Read Img

theorem own : ownKnob Tryd.prog.godebug = none := by kernel_rfl
theorem cells38 : Tryd.prog.cellsOf 27 = 4 := by kernel_rfl
theorem cells56 : Tryd.prog.cellsOf 52 = 2 := by kernel_rfl
theorem cells54 : Tryd.prog.cellsOf 55 = 4 := by kernel_rfl
theorem cells23 : Tryd.prog.cellsOf 28 = 1 := by kernel_rfl
theorem cells52 : Tryd.prog.cellsOf 53 = 1 := by kernel_rfl
theorem cells25 : Tryd.prog.cellsOf 22 = 1 := by kernel_rfl
theorem cells27 : Tryd.prog.cellsOf 24 = 1 := by kernel_rfl
theorem laidOut : laidOutB Tryd.prog = true := by kernel_rfl

theorem cut (l : List Value) (j : Nat) (v : Value) (hl : (l.drop j).take 1 = [v]) : l[j]? = some v := by
  have := congrArg (·[0]?) hl
  simpa [List.getElem?_drop] using this

section
variable {H : Type} {enc : TypeId × Value → H} {W : World} {spare : Nat → Bool} {held : Bool}

theorem numbers {fuel : Nat} {cs : List Value} {x : DataW H × List MemPlace} (h : DataW.trod enc Tryd.prog W 0 spare held fuel 29 cs = some x) :
    ∃ (ao : Option Addr) (len cap : Nat) (z : Nat → Int), cs = [.slice ao len cap] ∧ len ≤ maxLen ∧ Ints W ao len z := by
  rcases Go.Deep.open_slice1 Tryd.underlying29 cells3 h with ⟨rfl, _⟩ | ⟨ad, len, cap, m, n, V, D, Pl, rfl, _, hle, hcap, hm, _, hel⟩
  · exact ⟨none, 0, 0, fun _ => 0, rfl, Nat.zero_le _, fun k hk => absurd hk (by omega)⟩
  · have each : ∀ i, i < len → ∃ q : Int, W.cell? (ad.add i) = some (.int .i64 q) := by
      intro i hi
      obtain ⟨h1, h2⟩ := hel i (by rw [hm]; split <;> omega)
      obtain ⟨z0, a0, _, _⟩ := DataW.trod_int Tryd.underlying3 h2
      simp at a0
      exact ⟨z0, by rw [h1, a0]⟩
    obtain ⟨z, hz⟩ := Go.Deep.choose_lt each
    refine ⟨some ad, len, cap, z, rfl, by omega, fun k hk => ?_⟩
    obtain ⟨bl, off, spot⟩ := ad
    have hspot : spot = none := by simpa [Addr.add] using World.cell?_spot (hz 0 (by omega))
    subst hspot
    exact ⟨bl, off, rfl, fun j hj => by rw [← Go.WideShapes.add_plain]; exact hz j hj⟩

theorem instrs {fuel : Nat} {cs : List Value} {x : DataW H × List MemPlace} (h : DataW.trod enc Tryd.prog W 0 spare held fuel 28 cs = some x) :
    ∃ (ao : Option Addr) (len cap : Nat) (o a b c : Nat → Int), cs = [.slice ao len cap] ∧ Instrs W ao len o a b c := by
  rcases Go.Deep.open_slice Tryd.underlying28 h with ⟨rfl, _⟩ | ⟨ad, len, cap, m, n, D, Pl, rfl, _, hle, _, hm, _, hel⟩
  · exact ⟨none, 0, 0, fun _ => 0, fun _ => 0, fun _ => 0, fun _ => 0, rfl, fun k hk => absurd hk (by omega)⟩
  · have look : ∀ i, i < len → ∃ q : Int × Int × Int × Int, W.cell? (ad.add (i * 4 + 0)) = some (.int .i64 q.1) ∧ W.cell? (ad.add (i * 4 + 1)) = some (.int .i64 q.2.1) ∧
        W.cell? (ad.add (i * 4 + 2)) = some (.int .i64 q.2.2.1) ∧ W.cell? (ad.add (i * 4 + 3)) = some (.int .i64 q.2.2.2) := by
      intro i hi
      obtain ⟨cs', h1, h2⟩ := hel i (by rw [hm]; split <;> omega)
      rw [cells38] at h1
      obtain ⟨_, hlen, hcell⟩ := World.cells?_some h1
      obtain ⟨y0, y1, y2, y3, n', hx, _, g0, g1, g2, g3⟩ := trod_struct4 Tryd.underlying27 h2
      obtain ⟨z0, a0, _, _⟩ := DataW.trod_int Tryd.underlying3 g0
      obtain ⟨z1, a1, _, _⟩ := DataW.trod_int Tryd.underlying3 g1
      obtain ⟨z2, a2, _, _⟩ := DataW.trod_int Tryd.underlying3 g2
      obtain ⟨z3, a3, _, _⟩ := DataW.trod_int Tryd.underlying3 g3
      simp only [cells3] at a0 a1 a2 a3
      have k0 := hcell 0 (by omega)
      have k1 := hcell 1 (by omega)
      have k2 := hcell 2 (by omega)
      have k3 := hcell 3 (by omega)
      rw [Go.Deep.add_add] at k0 k1 k2 k3
      exact ⟨(z0, z1, z2, z3), k0.trans (cut _ _ _ a0), k1.trans (cut _ _ _ a1), k2.trans (cut _ _ _ a2), k3.trans (cut _ _ _ a3)⟩
    have each : ∀ i, i < len → ∃ q : Int × Int × Int × Int, ∃ bl off, ad = ⟨bl, off, none⟩ ∧ W.cell? ⟨bl, off + i * 4, none⟩ = some (.int .i64 q.1) ∧ W.cell? ⟨bl, off + i * 4 + 1, none⟩ = some (.int .i64 q.2.1) ∧
        W.cell? ⟨bl, off + i * 4 + 2, none⟩ = some (.int .i64 q.2.2.1) ∧ W.cell? ⟨bl, off + i * 4 + 3, none⟩ = some (.int .i64 q.2.2.2) := by
      intro i hi
      obtain ⟨q0, t0, _⟩ := look 0 (by omega)
      obtain ⟨bl, off, spot⟩ := ad
      have hspot : spot = none := by simpa [Addr.add] using World.cell?_spot t0
      subst hspot
      obtain ⟨q, u0, u1, u2, u3⟩ := look i hi
      rw [Go.WideShapes.add_plain] at u0 u1 u2 u3
      exact ⟨q, bl, off, rfl, u0, u1, u2, u3⟩
    obtain ⟨q, hq⟩ := Go.Deep.choose_lt each
    refine ⟨some ad, len, cap, fun i => (q i).1, fun i => (q i).2.1, fun i => (q i).2.2.1, fun i => (q i).2.2.2, rfl, fun k hk => ?_⟩
    obtain ⟨bl, off, rfl, t⟩ := hq k hk
    exact ⟨bl, off, rfl, t⟩

theorem entries {fuel : Nat} {cs : List Value} {x : DataW H × List MemPlace} (h : DataW.trod enc Tryd.prog W 0 spare held fuel 53 cs = some x) :
    ∃ (ao : Option Addr) (len cap : Nat) (t r : Nat → Int), cs = [.slice ao len cap] ∧ Entries W ao len t r := by
  rcases Go.Deep.open_slice Tryd.underlying53 h with ⟨rfl, _⟩ | ⟨ad, len, cap, m, n, D, Pl, rfl, _, hle, _, hm, _, hel⟩
  · exact ⟨none, 0, 0, fun _ => 0, fun _ => 0, rfl, fun k hk => absurd hk (by omega)⟩
  · have look : ∀ i, i < len → ∃ q : Int × Int, W.cell? (ad.add (i * 2 + 0)) = some (.int .i64 q.1) ∧ W.cell? (ad.add (i * 2 + 1)) = some (.int .i64 q.2) := by
      intro i hi
      obtain ⟨cs', h1, h2⟩ := hel i (by rw [hm]; split <;> omega)
      rw [cells56] at h1
      obtain ⟨_, hlen, hcell⟩ := World.cells?_some h1
      obtain ⟨y0, y1, n', hx, _, g0, g1⟩ := trod_struct2 Tryd.underlying52 h2
      obtain ⟨z0, a0, _, _⟩ := DataW.trod_int Tryd.underlying3 g0
      obtain ⟨z1, a1, _, _⟩ := DataW.trod_int Tryd.underlying3 g1
      simp only [cells3] at a0 a1
      have k0 := hcell 0 (by omega)
      have k1 := hcell 1 (by omega)
      rw [Go.Deep.add_add] at k0 k1
      exact ⟨(z0, z1), k0.trans (cut _ _ _ a0), k1.trans (cut _ _ _ a1)⟩
    have each : ∀ i, i < len → ∃ q : Int × Int, ∃ bl off, ad = ⟨bl, off, none⟩ ∧ W.cell? ⟨bl, off + i * 2, none⟩ = some (.int .i64 q.1) ∧ W.cell? ⟨bl, off + i * 2 + 1, none⟩ = some (.int .i64 q.2) := by
      intro i hi
      obtain ⟨q0, t0, _⟩ := look 0 (by omega)
      obtain ⟨bl, off, spot⟩ := ad
      have hspot : spot = none := by simpa [Addr.add] using World.cell?_spot t0
      subst hspot
      obtain ⟨q, u0, u1⟩ := look i hi
      rw [Go.WideShapes.add_plain] at u0 u1
      exact ⟨q, bl, off, rfl, u0, u1⟩
    obtain ⟨q, hq⟩ := Go.Deep.choose_lt each
    refine ⟨some ad, len, cap, fun i => (q i).1, fun i => (q i).2, rfl, fun k hk => ?_⟩
    obtain ⟨bl, off, rfl, t⟩ := hq k hk
    exact ⟨bl, off, rfl, t⟩

def noPart : PartD := ⟨none, 0, 0, fun _ => 0, fun _ => 0, fun _ => 0, fun _ => 0, none, 0, 0, fun _ => 0, fun _ => 0, 0, 0⟩

theorem parts {fuel : Nat} {cs : List Value} {x : DataW H × List MemPlace} (h : DataW.trod enc Tryd.prog W 0 spare held fuel 22 cs = some x) :
    ∃ (ao : Option Addr) (len cap : Nat) (P : Nat → PartD), cs = [.slice ao len cap] ∧ len ≤ maxLen ∧ Parts W ao len P := by
  rcases Go.Deep.open_slice Tryd.underlying22 h with ⟨rfl, _⟩ | ⟨ad, len, cap, m, n, D, Pl, rfl, _, hle, hcap, hm, _, hel⟩
  · exact ⟨none, 0, 0, fun _ => noPart, rfl, Nat.zero_le _, fun k hk => absurd hk (by omega)⟩
  · have look : ∀ i, i < len → ∃ q : PartD, (W.cell? (ad.add (i * 4 + 0)) = some (.slice q.ca q.cl q.cc) ∧ W.cell? (ad.add (i * 4 + 1)) = some (.slice q.ea q.el q.ec) ∧
        W.cell? (ad.add (i * 4 + 2)) = some (.int .i64 q.lo) ∧ W.cell? (ad.add (i * 4 + 3)) = some (.int .i64 q.hi)) ∧ PartLies W q := by
      intro i hi
      obtain ⟨cs', h1, h2⟩ := hel i (by rw [hm]; split <;> omega)
      rw [cells54] at h1
      obtain ⟨_, hlen, hcell⟩ := World.cells?_some h1
      obtain ⟨y0, y1, y2, y3, n', hx, _, g0, g1, g2, g3⟩ := trod_struct4 Tryd.underlying55 h2
      obtain ⟨ca, cl, cc, o, a, b, c, a0, b0⟩ := instrs g0
      obtain ⟨ea, el, ec, t, r, a1, b1⟩ := entries g1
      obtain ⟨z2, a2, _, _⟩ := DataW.trod_int Tryd.underlying3 g2
      obtain ⟨z3, a3, _, _⟩ := DataW.trod_int Tryd.underlying3 g3
      simp only [cells3, cells23, cells52] at a0 a1 a2 a3
      have k0 := hcell 0 (by omega)
      have k1 := hcell 1 (by omega)
      have k2 := hcell 2 (by omega)
      have k3 := hcell 3 (by omega)
      rw [Go.Deep.add_add] at k0 k1 k2 k3
      exact ⟨⟨ca, cl, cc, o, a, b, c, ea, el, ec, t, r, z2, z3⟩, ⟨k0.trans (cut _ _ _ a0), k1.trans (cut _ _ _ a1), k2.trans (cut _ _ _ a2), k3.trans (cut _ _ _ a3)⟩, b0, b1⟩
    have each : ∀ i, i < len → ∃ q : PartD, (∃ bl off, some ad = some ⟨bl, off, none⟩ ∧ W.cell? ⟨bl, off + i * 4, none⟩ = some (.slice q.ca q.cl q.cc) ∧ W.cell? ⟨bl, off + i * 4 + 1, none⟩ = some (.slice q.ea q.el q.ec) ∧
        W.cell? ⟨bl, off + i * 4 + 2, none⟩ = some (.int .i64 q.lo) ∧ W.cell? ⟨bl, off + i * 4 + 3, none⟩ = some (.int .i64 q.hi)) ∧ PartLies W q := by
      intro i hi
      obtain ⟨q0, ⟨t0, _⟩, _⟩ := look 0 (by omega)
      obtain ⟨bl, off, spot⟩ := ad
      have hspot : spot = none := by simpa [Addr.add] using World.cell?_spot t0
      subst hspot
      obtain ⟨q, ⟨u0, u1, u2, u3⟩, hq⟩ := look i hi
      rw [Go.WideShapes.add_plain] at u0 u1 u2 u3
      exact ⟨q, ⟨bl, off, rfl, u0, u1, u2, u3⟩, hq⟩
    have : Inhabited PartD := ⟨noPart⟩
    obtain ⟨q, hq⟩ := Go.Deep.choose_lt each
    exact ⟨some ad, len, cap, q, rfl, by omega, hq⟩

set_option maxRecDepth 100000 in
/-- an image, by value -/
theorem image {b0 : Nat} {v : Value} {d : DataW H} {p : List MemPlace} (hv : Value.okWide Tryd.prog W .any b0 24 v) (h : DataW.Trod enc Tryd.prog W 0 spare held 24 v d p) :
    ∃ (ao : Option Addr) (len cap : Nat) (P : Nat → PartD), v = .agg #[.slice ao len cap] ∧ len ≤ maxLen ∧ Parts W ao len P := by
  obtain ⟨cs, rfl, hsz⟩ := okWide_struct Tryd.underlying24 hv
  rw [cells27] at hsz
  obtain ⟨c0, rfl⟩ : ∃ c0, cs = #[c0] := by
    obtain ⟨l⟩ := cs
    match l, hsz with
    | [c0], _ => exact ⟨c0, rfl⟩
  obtain ⟨fuel, hf⟩ := h
  obtain ⟨y0, n, _, _, g0⟩ := trod_struct1 Tryd.underlying24 hf
  obtain ⟨ao, len, cap, P, hcs, hl, hP⟩ := parts g0
  simp [Value.cells, cells25] at hcs
  exact ⟨ao, len, cap, P, by rw [hcs], hl, hP⟩
end
end Go.Proofs.YtmbbkabecipkaacDoor.Open

namespace Go.Proofs.YtmbbkabecipkaacDoor.MachRuns
open Go.ChangeShapes Go.WideShapes Go.ChangeAt Go.RowKit Go.Joins Tab Go.Proofs.YtmbbkabecipkaacDoor.Check Lists Img Go.Proofs.YtmbbkabecipkaacDoor.Read Go.Proofs.YtmbbkabecipkaacDoor.Open

theorem as_list {w : World} {ao : Option Addr} {n : Nat} {z : Nat → Int} (h : Ints w ao n z) : ∃ l : List Int, n = l.length ∧ Ints w ao l.length (fun i => l.getD i 0) := by
  refine ⟨(List.range n).map z, by simp, fun k hk => ?_⟩
  simp only [List.length_map, List.length_range] at hk
  obtain ⟨bl, off, e, t⟩ := h k hk
  refine ⟨bl, off, e, fun j hj => ?_⟩
  simp only [List.length_map, List.length_range] at hj
  rw [t j hj]
  simp [List.getD_eq_getElem?_getD, hj]

theorem walkz (ao : Option Addr) (len cap : Nat) (hlen : len ≤ maxLen) (P : Nat → PartD) (da : Option Addr) (dlen dcap : Nat) (z : Nat → Int) (hby : dlen * 8 ≤ 140737488355328) (p : Int) (_ : (Lit.int .i64 p).wf = true) (en : Int) (_ : (Lit.int .i64 en).wf = true) (aa : Option Addr) (alen acap : Nat) (az : Nat → Int) (hay : alen * 8 ≤ 140737488355328) (fuel : Int) (_ : (Lit.int .i64 fuel).wf = true) (w : World) (hl : Lies w) (hin : Parts w ao len P) (hd : Ints w da dlen z) (ha : Ints w aa alen az) :
    Calls Tryd.prog 4 #[.agg #[.slice ao len cap], .slice da dlen dcap, .int .i64 p, .int .i64 en, .slice aa alen acap, .int .i64 fuel] w fun e w' => e = .returned (.bool true) ∧ Below w.heap.size w w' := by
  obtain ⟨data, rfl, hd'⟩ := as_list hd
  obtain ⟨args, rfl, ha'⟩ := as_list ha
  exact MachWalk.walk ao len cap hlen P da data dcap hby p en aa args acap (by unfold maxLen; omega) fuel w hl hin hd' ha'

theorem bytes3 : Tryd.prog.bytesOf 3 = 8 := by kernel_rfl

/-- a list of numbers that is handed in takes fewer than 2^47 bytes: the form's own reach -/
theorem sized_numbers {H : Type} {enc : TypeId × Value → H} {W : World} {spare : Nat → Bool} {held : Bool} {ts : List TypeId} {ds : List (DataW H)} (hsz : (DataW.weightsEach Tryd.prog ts ds).all (· ≤ reachBytes) = true) {j : Nat} {d : DataW H} {p : List MemPlace} {da : Option Addr} {dlen dcap : Nat}
    (ht : ts[j]? = some 29) (hd : ds[j]? = some d) (h : DataW.Trod enc Tryd.prog W 0 spare held 29 (.slice da dlen dcap) d p) : dlen * 8 ≤ 140737488355328 := by
  obtain ⟨fuel, hf⟩ := h
  rcases Go.Deep.open_slice1 Tryd.underlying29 cells3 hf with ⟨hcs, _⟩ | ⟨ad, len, cap, m, n, V, D, Pl, hcs, _, _, _, _, hx, _⟩
  · simp [Value.cells] at hcs
    omega
  · simp [Value.cells] at hcs
    obtain ⟨_, rfl, _⟩ := hcs
    simp only [Prod.mk.injEq] at hx
    rw [hx.1] at hd
    have := sized_slice hsz ht hd Tryd.underlying29
    rw [bytes3] at this
    have h2 := reachBytes_lt
    simp at this
    omega

set_option maxRecDepth 100000 in
theorem lifted (os : Os) (started : os.Started) (H : Type) (enc : TypeId × Value → H) :
    ReturnsInHanded {} Tryd.checked os 4 .any (fun w args => (Rows.machRunsSpec.pre enc Tryd.prog Tryd.f4 [] false w args ∧ laidMetH Tryd.prog [("barbican/code.bounds", Rows.laid_barbican_code_bounds)] w) ∧ sizedMet enc Tryd.prog Tryd.f4 (OpenSpec.ofChange Rows.machRunsSpec) false w args)
      (Rows.machRunsSpec.post enc Tryd.prog Tryd.f4 false true false false) := by
  refine returnsInHanded_of_change_and (C := Tryd.checked) (X := fun w _ => laidMetH Tryd.prog [("barbican/code.bounds", Rows.laid_barbican_code_bounds)] w) (fun _ _ _ hh h => h.of_heap hh) own started (by kernel_rfl) Tryd.func4
    (ChangeSpec.witness_shaped (enc := enc) (C := Tryd.checked) (os := os) (X := fun w _ => laidMetH Tryd.prog [("barbican/code.bounds", Rows.laid_barbican_code_bounds)] w) false (World.doorLaid Tryd.prog 29 os) #[.agg #[.slice none 0 0], .slice none 0 0, .int .i64 0, .int .i64 0, .slice none 0 0, .int .i64 0] 8 rfl (World.shaped_of_RefB (by kernel_rfl) (by kernel_rfl)) (by kernel_rfl) (by kernel_rfl) (by kernel_rfl)
      (laidMetH_of_parts3 (fuel := 8) (laidMet_of_run' 8 (by kernel_rfl) (by kernel_rfl)) (by kernel_rfl) (by kernel_rfl))) ?_
  intro W base args ds gs before hval0 hW _ hsz0 hL _
  have hval : ∀ (j : Nat) t v, Tryd.f4.params[j]? = some t → args[j]? = some v → Value.okWide Tryd.prog W .any base t v := hval0
  have hsz : (DataW.weightsEach Tryd.prog (Tryd.f4.params.toList ++ Rows.machRunsSpec.plain.varTypes Tryd.prog) (ds ++ gs)).all (· ≤ reachBytes) = true := hsz0
  have hW' := hW
  obtain ⟨p, q, hA0, hV, rfl, hfz, hnd⟩ := hW
  have hA : DataW.TrodAll enc Tryd.prog W 0 (fun _ => true) true Tryd.f4.params.toList args.toList ds p := hA0
  rw [Tryd.params4] at hA hval hsz
  obtain ⟨v0, vs0, d0, ds0, p0, q0, hargs, rfl, rfl, h0, r0⟩ := trodAll_cons hA
  obtain ⟨v1, vs1, d1, ds1, p1, q1, rfl, rfl, rfl, h1, r1⟩ := trodAll_cons r0
  obtain ⟨v2, vs2, d2, ds2, p2, q2, rfl, rfl, rfl, h2, r2⟩ := trodAll_cons r1
  obtain ⟨v3, vs3, d3, ds3, p3, q3, rfl, rfl, rfl, h3, r3⟩ := trodAll_cons r2
  obtain ⟨v4, vs4, d4, ds4, p4, q4, rfl, rfl, rfl, h4, r4⟩ := trodAll_cons r3
  obtain ⟨v5, vs5, d5, ds5, p5, q5, rfl, rfl, rfl, h5, r5⟩ := trodAll_cons r4
  obtain ⟨rfl, rfl, rfl⟩ := trodAll_nil r5
  obtain rfl : args = #[v0, v1, v2, v3, v4, v5] := by cases args; simp_all
  obtain ⟨rfl, rfl⟩ := trodVars_none hV
  obtain ⟨fuel0, hf0⟩ := id h0
  obtain ⟨ao0, len0, cap0, P0, rfl, hl0, hin0⟩ := Open.image (hval 0 24 v0 rfl rfl) h0
  obtain ⟨fuel1, hf1⟩ := id h1
  obtain ⟨da1, dlen1, dcap1, rfl⟩ := okWide_slice Tryd.underlying29 (hval 1 29 v1 rfl rfl)
  have hby1 : dlen1 * 8 ≤ 140737488355328 := sized_numbers hsz (j := 1) rfl rfl h1
  obtain ⟨da', dlen', dcap', z1, hcs, hdl1, hd1⟩ := Open.numbers hf1
  obtain ⟨rfl, rfl, rfl⟩ : da1 = da' ∧ dlen1 = dlen' ∧ dcap1 = dcap' := by simpa [Value.cells] using hcs
  obtain ⟨a2, rfl, rfl, rfl, w2⟩ := open_int Tryd.underlying3 (hval 2 3 v2 rfl rfl) h2
  obtain ⟨a3, rfl, rfl, rfl, w3⟩ := open_int Tryd.underlying3 (hval 3 3 v3 rfl rfl) h3
  obtain ⟨fuel4, hf4⟩ := id h4
  obtain ⟨da4, dlen4, dcap4, rfl⟩ := okWide_slice Tryd.underlying29 (hval 4 29 v4 rfl rfl)
  have hby4 : dlen4 * 8 ≤ 140737488355328 := sized_numbers hsz (j := 4) rfl rfl h4
  obtain ⟨da', dlen', dcap', z4, hcs, hdl4, hd4⟩ := Open.numbers hf4
  obtain ⟨rfl, rfl, rfl⟩ : da4 = da' ∧ dlen4 = dlen' ∧ dcap4 = dcap' := by simpa [Value.cells] using hcs
  obtain ⟨a5, rfl, rfl, rfl, w5⟩ := open_int Tryd.underlying3 (hval 5 3 v5 rfl rfl) h5
  clear hA0 hval0
  simp only [List.append_nil] at hW'
  refine (walkz ao0 len0 cap0 hl0 P0 da1 dlen1 dcap1 z1 hby1 a2 w2 a3 w3 da4 dlen4 dcap4 z4 hby4 a5 w5 W (lies hL) hin0 hd1 hd4).mono fun e W' ⟨he, hb⟩ => ?_
  subst he
  exact ⟨_, rfl, _, _, _, [], _, [], hW', trodAll_mk1 (shut_bool Tryd.underlying4 _), (trodAll_cons_mk (Below.trod laidOut (by kernel_rfl) (of_decide_eq_true (by kernel_rfl)) h0 hb (DataW.trod_lt fuel0 _ _ _ hf0)) (trodAll_cons_mk (Below.trod laidOut (by kernel_rfl) (of_decide_eq_true (by kernel_rfl)) h1 hb (DataW.trod_lt fuel1 _ _ _ hf1)) (trodAll_cons_mk (shut_int Tryd.underlying3 w2) (trodAll_cons_mk (shut_int Tryd.underlying3 w3) (trodAll_cons_mk (Below.trod laidOut (by kernel_rfl) (of_decide_eq_true (by kernel_rfl)) h4 hb (DataW.trod_lt fuel4 _ _ _ hf4)) (trodAll_cons_mk (shut_int Tryd.underlying3 w5) trodAll_mk0)))))), rfl, hb.frame _, fun h => by cases h⟩

theorem over : Rows.machRunsRow.holds Tryd.pinned (OpenSpec.ofChange Rows.machRunsSpec) :=
  OpenClaim.holds_of_wide 4 Tryd.f4 rfl rfl rfl rfl rfl rfl rfl ⟨rfl, rfl, rfl, rfl, rfl⟩ rfl rfl rfl rfl rfl (by kernel_rfl) Tryd.func4 (by kernel_rfl)
    (of_decide_eq_true (by kernel_rfl)) (by unfold Func.isWrapper; first | (rw [if_pos (by decide +kernel)]; kernel_rfl) | (rw [if_neg (by decide +kernel)]; exact ⟨rfl, rfl⟩))
    (fun os started H enc _ => lifted os started H enc)
end Go.Proofs.YtmbbkabecipkaacDoor.MachRuns
namespace Go.Proofs.YtmbbkabecipkaacDoor
/-- THE STATEMENT -/
theorem machRuns_holds : Rows.MachRunsCardSaid :=
  Claim7.holds_tied_plain_at .later [] [.data] true (true, "9184df63d0e0042906ce6ac6a5dd3c1dc73bcaf265c75de620025ddef0086ff9") false
    MachRuns.over (fun _ h => by cases h) (by kernel_rfl) (fun _ h => by cases h) machRuns_row_tie rfl ⟨rfl, rfl⟩ (by kernel_rfl) rfl
    (fun f fn hf hfn => by
      obtain rfl : f = 4 := Option.some.inj ((show Tryd.prog.funcNamed "barbican/barbicanlaw.MachRuns" = some 4 by kernel_rfl).symm.trans hf) |>.symm
      obtain rfl : fn = Tryd.f4 := (Option.some.inj (Tryd.func4.symm.trans hfn)).symm
      exact ⟨by kernel_rfl, fun j t ht => by
        rw [Tryd.params4] at ht
        rcases j with _ | _ | _ | _ | _ | _ | j
        · obtain rfl : t = 24 := by simpa using ht.symm
          exact (show Tryd.prog.wantsStandIn 24 = false by kernel_rfl)
        · obtain rfl : t = 29 := by simpa using ht.symm
          exact (show Tryd.prog.wantsStandIn 29 = false by kernel_rfl)
        · obtain rfl : t = 3 := by simpa using ht.symm
          exact (show Tryd.prog.wantsStandIn 3 = false by kernel_rfl)
        · obtain rfl : t = 3 := by simpa using ht.symm
          exact (show Tryd.prog.wantsStandIn 3 = false by kernel_rfl)
        · obtain rfl : t = 29 := by simpa using ht.symm
          exact (show Tryd.prog.wantsStandIn 29 = false by kernel_rfl)
        · obtain rfl : t = 3 := by simpa using ht.symm
          exact (show Tryd.prog.wantsStandIn 3 = false by kernel_rfl)
        · simp at ht⟩)
    (by kernel_rfl)
#print axioms machRuns_holds
end Go.Proofs.YtmbbkabecipkaacDoor
