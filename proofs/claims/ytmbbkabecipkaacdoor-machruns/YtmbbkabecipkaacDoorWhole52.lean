/-
  WHAT sameInts AND sameOutcome GIVE: lists of the same numbers are the same; what came of two runs that gave the same is the same.
  Conditions: each contract's own hypotheses (what is compared lies there).
-/
import Derived.Test.YtmbbkabecipkaacDoorWhole50
import Derived.Test.YtmbbkabecipkaacDoorWhole51
namespace Go.Proofs.YtmbbkabecipkaacDoor.Outcome
open Go.RowKit Tab Go.Proofs.YtmbbkabecipkaacDoor.Check Lists Go.Proofs.YtmbbkabecipkaacDoor.Read Img Mach Own Go.Proofs.YtmbbkabecipkaacDoor.Inv RunBad RunNot MRun ActQ RStart

set_option maxHeartbeats 1000000 in
theorem same (w : World) (ao ao' : Option Addr) (n c c' : Nat) (z : Nat → Int) (hn : n ≤ maxLen) (h : Ints w ao n z) (h' : Ints w ao' n z) :
    Calls Tryd.prog 17 #[.slice ao n c, .slice ao' n c'] w fun e w' => e = .returned (.bool true) ∧ Below w.heap.size w w' := by
  unfold maxLen at hn
  have hnI : (n : Int) ≤ 9223372036854775807 := by omega
  have H : Hid _ := h
  have H' : Hid _ := h'
  clear h h' hn
  go_enter Tryd.func17, Tryd.ntmps17
  go_wp2
  go_loopw [5] (fun i wr => ∃ k : Nat, k ≤ n ∧ i = .int .i64 k ∧ Below w.heap.size w wr) (fun i _ => n - (intOf i).toNat)
  case atStart => exact ⟨0, Nat.zero_le _, rfl, Below.refl _ _⟩
  case round =>
    obtain ⟨k, hk, rfl, hbel⟩ := hrel
    by_cases hkn : k < n
    · have hkI : (k : Int) < n := by omega
      obtain ⟨bl, off, rfl, q⟩ := Ints_below H.out hbel k hkn
      obtain ⟨bl', off', rfl, q'⟩ := Ints_below H'.out hbel k hkn
      have s := q k hkn
      have s' := q' k hkn
      clear q q' H H'
      go_wp2
      go_quiet (fail)
      go_wp2
      go_roundw
      case rel => exact ⟨k + 1, by omega, by go_num, ⟨hbel.os, hbel.tape, hbel.output, hbel.size, hbel.block⟩⟩
      case measure => simp [intOf]; omega
    · obtain rfl : k = n := by omega
      clear H H'
      go_wp2
      go_ret
      exact ⟨rfl, hbel⟩

/-- a row of one's own: its numbers lie there -/
theorem owned_ints {w : World} {B : Nat} {v : Value} {l : List Int} (h : w.ownsRow B 3 1 v l.length (ints l)) : ∃ da dcap, v = .slice da l.length dcap ∧ l.length ≤ maxLen ∧ Ints w da l.length (fun i => l.getD i 0) := by
  rcases h.2 with ⟨rfl, h0⟩ | ⟨g, cap, cur, rfl, _, _, hc, hm, _⟩
  · exact ⟨none, 0, by rw [h0], by rw [h0]; exact Nat.zero_le _, fun k hk => absurd hk (by omega)⟩
  · refine ⟨_, _, rfl, by omega, fun k hk => ⟨g, 0, rfl, fun j hj => ?_⟩⟩
    rw [Nat.zero_add]
    exact (h.cellAt j (by omega)).trans (by simp [ints, List.getD_eq_getElem?_getD, List.getElem?_eq_getElem hj])

/-- a call that was noted, as its seven cells -/
theorem rec_cells {w : World} {B g c : Nat} {C : List (Rec × Value)} (h : w.ownsRow B 76 7 (.slice (some ⟨g, 0, none⟩) C.length c) C.length (flatC C)) {k : Nat} {r : Rec} {v : Value} (hk : C[k]? = some (r, v)) :
    w.cell? ⟨g, k * 7, none⟩ = some (.int .i64 r.by_) ∧ w.cell? ⟨g, k * 7 + 1, none⟩ = some (.int .i64 r.part) ∧ w.cell? ⟨g, k * 7 + 2, none⟩ = some (.int .i64 r.entry) ∧ w.cell? ⟨g, k * 7 + 3, none⟩ = some (v) ∧ w.cell? ⟨g, k * 7 + 4, none⟩ = some (.int .i64 r.deep) ∧ w.cell? ⟨g, k * 7 + 5, none⟩ = some (.bool r.done) ∧ w.cell? ⟨g, k * 7 + 6, none⟩ = some (.int .i64 r.value) := by
  have hkl : k < C.length := (List.getElem?_eq_some_iff.1 hk).1
  have at_ : ∀ j (u : Value), j < 7 → (recCells r v)[j]? = some u → w.cell? ⟨g, k * 7 + j, none⟩ = some u := fun j u hj hu => (h.cellAt (k * 7 + j) (by omega)).trans ((flatC_at hj hk).trans hu)
  exact ⟨at_ 0 _ (by decide) rfl, at_ 1 _ (by decide) rfl, at_ 2 _ (by decide) rfl, at_ 3 _ (by decide) rfl, at_ 4 _ (by decide) rfl, at_ 5 _ (by decide) rfl, at_ 6 _ (by decide) rfl⟩

/-- two outcomes lie there, boxed -/
def two (w : World) (e v : Int) (a b c a' b' c' : Value) : World := (w.alloc (.cells #[.int .i64 e, .int .i64 v, a, b, c] 41)).alloc (.cells #[.int .i64 e, .int .i64 v, a', b', c'] 41)

theorem two_below (w : World) (e v : Int) (a b c a' b' c' : Value) : Below w.heap.size w (two w e v a b c a' b' c') := below2 w _ _

theorem two_cells {w W : World} {e v : Int} {a b c a' b' c' : Value} (hb : Below (two w e v a b c a' b' c').heap.size (two w e v a b c a' b' c') W) :
    (W.cell? ⟨w.heap.size, 3, none⟩ = some b ∧ W.cell? ⟨w.heap.size, 4, none⟩ = some c) ∧ (W.cell? ⟨w.heap.size + 1, 3, none⟩ = some b' ∧ W.cell? ⟨w.heap.size + 1, 4, none⟩ = some c') := by
  have h0 : ∀ i : Nat, (⟨w.heap.size, i, none⟩ : Addr).block < (two w e v a b c a' b' c').heap.size := fun i => by simp [two]; omega
  have h1 : ∀ i : Nat, (⟨w.heap.size + 1, i, none⟩ : Addr).block < (two w e v a b c a' b' c').heap.size := fun i => by simp [two]
  refine ⟨⟨(hb.cell (h0 3)).trans ?_, (hb.cell (h0 4)).trans ?_⟩, ⟨(hb.cell (h1 3)).trans ?_, (hb.cell (h1 4)).trans ?_⟩⟩
  · exact (World.cell?_alloc_past _ _ _ (by simp)).trans (by simp)
  · exact (World.cell?_alloc_past _ _ _ (by simp)).trans (by simp)
  · simp [two]
  · simp [two]

theorem same_at {C C' : List (Rec × Value)} (h : C.map Prod.fst = C'.map Prod.fst) {k : Nat} (hk : k < C.length) : ∃ r v v', C[k]? = some (r, v) ∧ C'[k]? = some (r, v') := by
  have hl : C.length = C'.length := by simpa using congrArg List.length h
  have e : (C.map Prod.fst)[k]? = (C'.map Prod.fst)[k]? := by rw [h]
  rw [List.getElem?_map, List.getElem?_map, List.getElem?_eq_getElem hk, List.getElem?_eq_getElem (by omega)] at e
  simp only [Option.map_some, Option.some.injEq] at e
  refine ⟨C[k].1, C[k].2, (C'[k]'(by omega)).2, List.getElem?_eq_getElem hk, ?_⟩
  rw [List.getElem?_eq_getElem (by omega), e]

set_option maxRecDepth 100000 in
set_option maxHeartbeats 4000000 in
theorem sameOutcome (B : Nat) (e v : Int) (vT vD vC vT' vD' vC' : Value) (s : St) (w : World) (h : Out B w vT vD vC s) (h' : Out B w vT' vD' vC' s) :
    Calls Tryd.prog 16 #[.agg #[.int .i64 e, .int .i64 v, vT, vD, vC], .agg #[.int .i64 e, .int .i64 v, vT', vD', vC']] w fun e w' => e = .returned (.bool true) ∧ Below w.heap.size w w' := by
  obtain ⟨aT, cT, rfl, mT, iT⟩ := owned_ints h.told
  obtain ⟨aT', cT', rfl, _, iT'⟩ := owned_ints h'.told
  obtain ⟨aD, cD, rfl, mD, iD⟩ := owned_ints h.data
  obtain ⟨aD', cD', rfl, _, iD'⟩ := owned_ints h'.data
  obtain ⟨C, eC, oC, nC⟩ := h.calls
  obtain ⟨C', eC', oC', nC'⟩ := h'.calls
  have eCC : C.map Prod.fst = C'.map Prod.fst := eC.trans eC'.symm
  have hlen : C'.length = C.length := by simpa using congrArg List.length eCC.symm
  obtain ⟨aC, cC, rfl, mC⟩ : ∃ a c, vC = .slice a C.length c ∧ C.length ≤ maxLen := by
    rcases oC.2 with ⟨rfl, h0⟩ | ⟨g, cap, cur, rfl, _, _, hc, hm, _⟩
    · exact ⟨none, 0, by rw [h0], by rw [h0]; exact Nat.zero_le _⟩
    · exact ⟨_, _, rfl, by omega⟩
  obtain ⟨aC', cC', rfl⟩ : ∃ a c, vC' = .slice a C'.length c := by
    rcases oC'.2 with ⟨rfl, h0⟩ | ⟨g, cap, cur, rfl, _⟩
    · exact ⟨none, 0, by rw [h0]⟩
    · exact ⟨_, _, rfl⟩
  have form : ∀ k, k < C.length → ∃ g, aC = some ⟨g, 0, none⟩ := fun k hk => by
    rcases oC.2 with ⟨_, h0⟩ | ⟨g, cap, cur, hv, _⟩
    · omega
    · cases hv
      exact ⟨g, rfl⟩
  have form' : ∀ k, k < C.length → ∃ g, aC' = some ⟨g, 0, none⟩ := fun k hk => by
    rcases oC'.2 with ⟨_, h0⟩ | ⟨g, cap, cur, hv, _⟩
    · omega
    · cases hv
      exact ⟨g, rfl⟩
  have kT : ∀ W, Below w.heap.size w W → _ := fun W hb => same W aT aT' s.told.length cT cT' _ mT (Ints_below iT hb) (Ints_below iT' hb)
  have kD : ∀ W, Below w.heap.size w W → _ := fun W hb => same W aD aD' s.data.length cD cD' _ mD (Ints_below iD hb) (Ints_below iD' hb)
  obtain ⟨nT, enT⟩ : ∃ n, n = s.told.length := ⟨_, rfl⟩
  obtain ⟨nD, enD⟩ : ∃ n, n = s.data.length := ⟨_, rfl⟩
  rw [← enT] at kT ⊢
  rw [← enD] at kD ⊢
  rw [hlen] at oC' ⊢
  obtain ⟨n, en⟩ : ∃ n, n = C.length := ⟨_, rfl⟩
  rw [← en] at mC ⊢
  unfold maxLen at mC
  have mI : (n : Int) ≤ 9223372036854775807 := by omega
  have recs : ∀ k W, k < n → Below w.heap.size w W → ∃ (g g' : Nat) (r : Rec) (al al' : Option Addr) (na c c' : Nat), aC = some ⟨g, 0, none⟩ ∧ aC' = some ⟨g', 0, none⟩ ∧ (W.cell? ⟨g, k * 7, none⟩ = some (.int .i64 r.by_) ∧ W.cell? ⟨g, k * 7 + 1, none⟩ = some (.int .i64 r.part) ∧ W.cell? ⟨g, k * 7 + 2, none⟩ = some (.int .i64 r.entry) ∧ W.cell? ⟨g, k * 7 + 3, none⟩ = some (.slice al na c) ∧ W.cell? ⟨g, k * 7 + 4, none⟩ = some (.int .i64 r.deep) ∧ W.cell? ⟨g, k * 7 + 5, none⟩ = some (.bool r.done) ∧ W.cell? ⟨g, k * 7 + 6, none⟩ = some (.int .i64 r.value)) ∧
      (W.cell? ⟨g', k * 7, none⟩ = some (.int .i64 r.by_) ∧ W.cell? ⟨g', k * 7 + 1, none⟩ = some (.int .i64 r.part) ∧ W.cell? ⟨g', k * 7 + 2, none⟩ = some (.int .i64 r.entry) ∧ W.cell? ⟨g', k * 7 + 3, none⟩ = some (.slice al' na c') ∧ W.cell? ⟨g', k * 7 + 4, none⟩ = some (.int .i64 r.deep) ∧ W.cell? ⟨g', k * 7 + 5, none⟩ = some (.bool r.done) ∧ W.cell? ⟨g', k * 7 + 6, none⟩ = some (.int .i64 r.value)) ∧
      ∀ W', Below W.heap.size W W' → Calls Tryd.prog 17 #[.slice al na c, .slice al' na c'] W' fun e w' => e = .returned (.bool true) ∧ Below W'.heap.size W' w' := by
    intro k W hk hb
    obtain ⟨g, rfl⟩ := form k (by omega)
    obtain ⟨g', rfl⟩ := form' k (by omega)
    obtain ⟨r, v, v', hr, hr'⟩ := same_at eCC (k := k) (by omega)
    obtain ⟨al, c, rfl, ma, ia⟩ := owned_ints (nC k r v hr)
    obtain ⟨al', c', rfl, _, ia'⟩ := owned_ints (nC' k r v' hr')
    have h1 := rec_cells (owns_below oC hb) hr
    have h2 := rec_cells (C := C') (by rw [hlen]; exact owns_below oC' hb) hr'
    exact ⟨g, g', r, al, al', r.args.length, c, c', rfl, rfl, h1, h2, fun W' hb' => same W' al al' _ c c' _ ma (Ints_below ia (hb.trans (hb'.mono hb.size))) (Ints_below ia' (hb.trans (hb'.mono hb.size)))⟩
  have bx : ∀ W, Below (two w e v (.slice aT nT cT) (.slice aD nD cD) (.slice aC n cC) (.slice aT' nT cT') (.slice aD' nD cD') (.slice aC' n cC')).heap.size (two w e v (.slice aT nT cT) (.slice aD nD cD) (.slice aC n cC) (.slice aT' nT cT') (.slice aD' nD cD') (.slice aC' n cC')) W → _ := fun W hb => two_cells hb
  have up := two_below w e v (.slice aT nT cT) (.slice aD nD cD) (.slice aC n cC) (.slice aT' nT cT') (.slice aD' nD cD') (.slice aC' n cC')
  have ew : (w.alloc (.cells #[.int .i64 e, .int .i64 v, .slice aT nT cT, .slice aD nD cD, .slice aC n cC] 41)).alloc (.cells #[.int .i64 e, .int .i64 v, .slice aT' nT cT', .slice aD' nD cD', .slice aC' n cC'] 41) = two w e v (.slice aT nT cT) (.slice aD nD cD) (.slice aC n cC) (.slice aT' nT cT') (.slice aD' nD cD') (.slice aC' n cC') := rfl
  generalize two w e v (.slice aT nT cT) (.slice aD nD cD) (.slice aC n cC) (.slice aT' nT cT') (.slice aD' nD cD') (.slice aC' n cC') = w0 at bx up ew
  have KT : Hid _ := kT
  have KD : Hid _ := kD
  have RECS : Hid _ := recs
  have BX : Hid _ := bx
  have UP : Hid _ := up
  have EW : Hid _ := ew
  clear kT kD recs bx up ew h h' iT iT' iD iD' mT mD oC oC' nC nC' eCC eC eC' hlen form form' enT enD en mC
  go_enter Tryd.func16, Tryd.ntmps16
  go_wp2_with (first
    | (go_at_call_of 17 (Value.slice aT nT cT); rw [EW.out]; refine (KT.out _ UP.out).mono ?_; rintro e w1 ⟨rfl, hb1⟩; obtain ⟨⟨q3, q4⟩, ⟨p3, p4⟩⟩ := BX.out _ hb1; have HB1 : Hid _ := hb1; clear hb1)
    | (go_at_call_of 17 (Value.slice aD nD cD); refine (KD.out _ (UP.out.trans (HB1.out.mono UP.out.size))).mono ?_; rintro e w2 ⟨rfl, hb2⟩; have HB2 : Hid _ := HB1.out.trans (hb2.mono HB1.out.size); clear hb2 q3 q4 p3 p4; obtain ⟨⟨q3, q4⟩, ⟨p3, p4⟩⟩ := BX.out _ HB2.out))
  clear q3 q4 p3 p4
  go_loopw [5] (fun i wr => ∃ k : Nat, k ≤ n ∧ i = .int .i64 k ∧ Below w0.heap.size w0 wr) (fun i _ => n - (intOf i).toNat)
  case atStart => exact ⟨0, Nat.zero_le _, rfl, HB2.out⟩
  case round =>
    obtain ⟨k, hk, rfl, hbel⟩ := hrel
    obtain ⟨⟨q3, q4⟩, ⟨p3, p4⟩⟩ := BX.out _ hbel
    by_cases hkn : k < n
    · have hkI : (k : Int) < n := by omega
      obtain ⟨g, g', r, al, al', na, c, c', rfl, rfl, ⟨t0, t1, t2, t3, t4, t5, t6⟩, ⟨u0, u1, u2, u3, u4, u5, u6⟩, kA⟩ := RECS.out k wr hkn (UP.out.trans (hbel.mono UP.out.size))
      generalize r.by_ = r0 at t0 u0
      generalize r.part = r1 at t1 u1
      generalize r.entry = r2 at t2 u2
      generalize r.deep = r4 at t4 u4
      generalize r.done = r5 at t5 u5
      generalize r.value = r6 at t6 u6
      have hb2 := below2 wr (.cells #[.int .i64 r0, .int .i64 r1, .int .i64 r2, .slice al na c, .int .i64 r4, .bool r5, .int .i64 r6] 76) (.cells #[.int .i64 r0, .int .i64 r1, .int .i64 r2, .slice al' na c', .int .i64 r4, .bool r5, .int .i64 r6] 76)
      have kA2 := kA _ hb2
      have HB : Hid _ := hbel
      have HB3 : Hid _ := hb2
      have b4 : wr.heap.size ≤ _ := hb2.size
      have u0' : ∀ o, (wr.alloc o).cell? ⟨g', k * 7, none⟩ = some (.int .i64 r0) := fun o => (World.cell?_alloc_past o _ _ (World.block_lt_of_cell? wr _ u0)).trans u0
      have u1' : ∀ o, (wr.alloc o).cell? ⟨g', k * 7 + 1, none⟩ = some (.int .i64 r1) := fun o => (World.cell?_alloc_past o _ _ (World.block_lt_of_cell? wr _ u1)).trans u1
      have u2' : ∀ o, (wr.alloc o).cell? ⟨g', k * 7 + 2, none⟩ = some (.int .i64 r2) := fun o => (World.cell?_alloc_past o _ _ (World.block_lt_of_cell? wr _ u2)).trans u2
      have u3' : ∀ o, (wr.alloc o).cell? ⟨g', k * 7 + 3, none⟩ = some (.slice al' na c') := fun o => (World.cell?_alloc_past o _ _ (World.block_lt_of_cell? wr _ u3)).trans u3
      have u4' : ∀ o, (wr.alloc o).cell? ⟨g', k * 7 + 4, none⟩ = some (.int .i64 r4) := fun o => (World.cell?_alloc_past o _ _ (World.block_lt_of_cell? wr _ u4)).trans u4
      have u5' : ∀ o, (wr.alloc o).cell? ⟨g', k * 7 + 5, none⟩ = some (.bool r5) := fun o => (World.cell?_alloc_past o _ _ (World.block_lt_of_cell? wr _ u5)).trans u5
      have u6' : ∀ o, (wr.alloc o).cell? ⟨g', k * 7 + 6, none⟩ = some (.int .i64 r6) := fun o => (World.cell?_alloc_past o _ _ (World.block_lt_of_cell? wr _ u6)).trans u6
      have p4' : ∀ o, (wr.alloc o).cell? ⟨w.heap.size + 1, 4, none⟩ = some (.slice (some ⟨g', 0, none⟩) n cC') := fun o => (World.cell?_alloc_past o _ _ (World.block_lt_of_cell? wr _ p4)).trans p4
      clear hbel hb2 kA b4 RECS KT KD BX EW u0 u1 u2 u3 u4 u5 u6 q3 p3
      go_wp2_with (go_at_call 17; refine kA2.mono ?_; rintro e w3 ⟨rfl, hb3⟩; have HB4 : Hid _ := hb3; clear hb3)
      go_roundw
      case rel => exact ⟨k + 1, by omega, by go_num, HB.out.trans ((HB3.out.trans (HB4.out.mono HB3.out.size)).mono HB.out.size)⟩
      case measure => simp [intOf]; omega
    · obtain rfl : k = n := by omega
      have HB : Hid _ := hbel
      clear hbel RECS KT KD BX EW
      go_wp2
      go_ret
      exact ⟨rfl, UP.out.trans (HB.out.mono UP.out.size)⟩
end Go.Proofs.YtmbbkabecipkaacDoor.Outcome
