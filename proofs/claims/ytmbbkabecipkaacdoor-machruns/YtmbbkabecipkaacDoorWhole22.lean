/-
  WHAT mach.Run GIVES where it refuses nothing: what the plain machine gives.
  Conditions: the table 'code.bounds' lies there, the image's parts, the data and the words.
  RunOf, ITS ENDS: what it returns is what the plain machine gives.
  Conditions: each theorem's own hypotheses.
  RunOf, A ROUND: its first pieces.
  Conditions: each theorem's own hypotheses.
-/
import Derived.Test.YtmbbkabecipkaacDoorWhole21
import Derived.Test.YtmbbkabecipkaacDoorWhole18
namespace Go.Proofs.YtmbbkabecipkaacDoor.MRunL
open Go.RowKit Tab Go.Proofs.YtmbbkabecipkaacDoor.Check Lists Go.Proofs.YtmbbkabecipkaacDoor.Read Img Mach Own Go.Proofs.YtmbbkabecipkaacDoor.Inv Go.Proofs.YtmbbkabecipkaacDoor.Frame Take Go.Proofs.YtmbbkabecipkaacDoor.Went Go.Proofs.YtmbbkabecipkaacDoor.Entry ActE ActQ StepQ ActL Go.Proofs.YtmbbkabecipkaacDoor.Start MCheck MRun

structure StandsL (w3 : World) (R D : Nat) (pS lS : Value) (P : Nat → PartD) (len dlen : Nat) (r : Int × Int × St) (e : Value) (wr : World) : Prop where
  out : (∃ (n : Nat) (s : St) (own : Nat → Tag) (vF vT vC : Value) (F : List (Fr × Value)) (C : List (Rec × Value)), n ≤ 100000 ∧ Inv own w3 wr R D pS lS vF vT vC n F [] s.data s.told C ∧ F.map Prod.fst = s.rooms ∧ C.map Prod.fst = s.calls ∧ Fit len s ∧ s.data.length = dlen ∧ run wdoT P len n s = r ∧ e = .int .i64 0) ∨
    (∃ (own : Nat → Tag) (vT vC : Value) (C : List (Rec × Value)), Fin own w3 wr R D pS lS vT vC r.2.1 r.2.2.data r.2.2.told C ∧ C.map Prod.fst = r.2.2.calls ∧ r.1 ≠ 0 ∧ (-10 ≤ r.1 ∧ r.1 ≤ 10) ∧ e = .int .i64 r.1)

theorem StandsL.goes {w3 : World} {R D : Nat} {pS lS : Value} {P : Nat → PartD} {len dlen : Nat} {r : Int × Int × St} {wr : World} {n : Nat} {s : St} {own : Nat → Tag} {vF vT vC : Value} {F : List (Fr × Value)} {C : List (Rec × Value)} (hn : n ≤ 100000) (h : Inv own w3 wr R D pS lS vF vT vC n F [] s.data s.told C) (h1 : F.map Prod.fst = s.rooms) (h2 : C.map Prod.fst = s.calls) (hf : Fit len s) (hd : s.data.length = dlen) (hr : run wdoT P len n s = r) : StandsL w3 R D pS lS P len dlen r (.int .i64 0) wr :=
  ⟨.inl ⟨n, s, own, vF, vT, vC, F, C, hn, h, h1, h2, hf, hd, hr, rfl⟩⟩

theorem StandsL.stops {w3 : World} {R D : Nat} {pS lS : Value} {P : Nat → PartD} {len dlen : Nat} {r : Int × Int × St} {wr : World} {own : Nat → Tag} {vT vC : Value} {C : List (Rec × Value)} (h : Fin own w3 wr R D pS lS vT vC r.2.1 r.2.2.data r.2.2.told C) (h2 : C.map Prod.fst = r.2.2.calls) (hn : r.1 ≠ 0) (h8 : -10 ≤ r.1 ∧ r.1 ≤ 10) : StandsL w3 R D pS lS P len dlen r (.int .i64 r.1) wr :=
  ⟨.inr ⟨own, vT, vC, C, h, h2, hn, h8, rfl⟩⟩

/-- a round of Run's loop -/
theorem roundL {w3 wr : World} {R D : Nat} {ao : Option Addr} {len capP gL capL : Nat} {P : Nat → PartD} {dlen : Nat} {r : Int × Int × St} (h : StandsL w3 R D (.slice ao len capP) (.slice (some ⟨gL, 0, none⟩) len capL) P len dlen r (.int .i64 0) wr) (hS : Sure w3 R D ao gL len dlen P) :
    Calls Tryd.prog 25 #[.pointer (some ⟨R, 0, none⟩)] wr fun e w' => ∃ v, e = .returned v ∧ StandsL w3 R D (.slice ao len capP) (.slice (some ⟨gL, 0, none⟩) len capL) P len dlen r v w' ∧ left R v w' < left R (.int .i64 0) wr := by
  have hout := h.out
  clear h
  rcases hout with ⟨n, s, own, vF, vT, vC, F, C, hn, h, h1, h2, hf, hd, hr, _⟩ | ⟨_, _, _, _, _, _, hn, _, e0⟩
  rotate_left
  · injection e0 with _ e0
    exact absurd e0.symm hn
  · skip
    obtain ⟨rooms, data, told, calls⟩ := s
    try dsimp only at h h1 h2 hd
    subst h1 h2 hd
    have c3 : wr.cell? ⟨R, 3, none⟩ = some (.int .i64 n) := h.run.cell 3 rfl
    have hl0 : left R (.int .i64 0) wr = n + 2 := by simp [left, c3, intOf]
    rw [hl0]
    cases n with
    | zero =>
      refine (Step.spent (by simpa using h)).mono ?_
      rintro e w' ⟨rfl, rfl⟩
      subst hr
      refine ⟨_, rfl, .stops (r := (3, 0, _)) h.fin rfl (by simp) (by simp), ?_⟩
      simp [left, intOf]
    | succ n =>
      refine (steppedL n (by omega) (by simpa using h) hS hf).mono ?_
      intro e w' hwent
      generalize eo : Mach.step wdoT P len ⟨F.map Prod.fst, data, told, C.map Prod.fst⟩ = o at hwent
      rcases hwent.out with ⟨s', own', vF', vT', vC', F', C', h', g1, g2, rfl, rfl⟩ | ⟨n', val, s', own', vT', vC', C', h', g2, rfl, rfl⟩
      ·
        have c3' : w'.cell? ⟨R, 3, none⟩ = some (.int .i64 n) := h'.run.cell 3 rfl
        exact ⟨_, rfl, .goes (by omega) h' g1 g2 (step_fit eo hf hS.code) (step_data.1 _ eo) (by rw [← hr, run_next eo]), by simp [left, c3', intOf]⟩
      ·
        have hb := step_data.2 _ eo
        have hr' : r = (n', val, s') := by rw [← hr, run_ends eo]
        subst hr'
        refine ⟨_, rfl, .stops (r := (n', val, s')) h' g2 hb.1 hb.2, ?_⟩
        have : n' ≠ 0 := hb.1
        simp [left, intOf, this]

theorem stands_waysL {w3 wr : World} {R D : Nat} {pS lS : Value} {P : Nat → PartD} {len dlen : Nat} {r : Int × Int × St} {v : Value} (h : StandsL w3 R D pS lS P len dlen r v wr) : (v = .int .i64 0 ∧ StandsL w3 R D pS lS P len dlen r (.int .i64 0) wr) ∨
    (v = .int .i64 r.1 ∧ r.1 ≠ 0 ∧ (-10 ≤ r.1 ∧ r.1 ≤ 10) ∧ ∃ own vT vC C, Fin own w3 wr R D pS lS vT vC r.2.1 r.2.2.data r.2.2.told C ∧ C.map Prod.fst = r.2.2.calls) := by
  rcases h.out with ⟨n, s, own, vF, vT, vC, F, C, hn, h, h1, h2, hf, hd, hr, he⟩ | ⟨own, vT, vC, C, h, h2, hn, h8, he⟩
  · exact .inl ⟨he, .goes hn h h1 h2 hf hd hr⟩
  · exact .inr ⟨he, hn, h8, own, vT, vC, C, h, h2⟩

set_option maxRecDepth 100000 in
set_option maxHeartbeats 2000000 in
theorem mrunL (ao : Option Addr) (len cap : Nat) (hlen : len ≤ maxLen) (P : Nat → PartD) (da : Option Addr) (data : List Int) (dcap : Nat) (aa : Option Addr) (args : List Int) (acap : Nat) (k j fuel pc : Nat) (w : World) (hl : Lies w) (hin : Parts w ao len P) (hd : Ints w da data.length (fun i => data.getD i 0)) (ha : Ints w aa args.length (fun i => args.getD i 0))
    (er : dataFault P len (fun i => data.getD i 0) data.length = 0) (hk : k < len) (hj : j < (P k).el) (hn : (args.length : Int) = (P k).prs j) (hf : fuel ≤ 100000) (hw : first (fun i => wordFault (args.getD i 0)) args.length = 0) (hpc : (P k).ats j = pc) :
    Calls Tryd.prog 14 #[.agg #[.slice ao len cap], .slice da data.length dcap, .int .i64 k, .int .i64 j, .slice aa args.length acap, .int .i64 fuel] w (Gave w (run wdoT P len fuel ⟨[⟨k, pc, pad args, [], none⟩], data, [], []⟩)) := by
  have h5 := (imageFault_zero (dataFault_zero er).1).1
  have hp := part_sure (first_zero (imageFault_zero (dataFault_zero er).1).2 k hk)
  have hen := entry_sure (first_zero hp.2.2.2 j hj)
  have hal : args.length ≤ 4 := by omega
  have hdl : data.length ≤ 250 := (inside er hk).2.2
  have hb0 := below2 w (.cells #[.slice ao len cap] 24) (.cells #[.int .i64 0, .int .i64 0, .slice none 0 0, .slice none 0 0, .slice none 0 0] 41)
  have k22 : ∀ W, Below w.heap.size w W → _ := fun W hb => check_ok ao len cap hlen P da data.length dcap (fun i => data.getD i 0) aa args.length acap (fun i => args.getD i 0) k j fuel W (Lies_below hl hb) (Parts_below hin hb) (Ints_below hd hb) (Ints_below ha hb) er hk hj hn (by omega) (by omega) hw
  have k23 : ∀ W, Below w.heap.size w W → _ := fun W hb => Start.start ao len cap h5 P data hdl da dcap (fuel : Int) W (Parts_below hin hb) (src_of hd hb)
  have kbeg : ∀ w2 w3 own lS bs, Below w.heap.size w w2 → bs.length = len → Rel w2 (w2.heap.size + 1) (w2.heap.size + 1 + 1) ao len cap fuel data P own lS bs w3 → _ := fun w2 w3 own lS bs hA hbs hrel => begins hrel hbs (by omega) (by omega) (by omega)
  have ksure : ∀ w2 w3 gL, Below w.heap.size w w2 → Below w2.heap.size w2 w3 → Go.Proofs.YtmbbkabecipkaacDoor.Look.Looks w3 (w2.heap.size + 1) (w2.heap.size + 1 + 1) gL len data.length P → Sure w3 (w2.heap.size + 1) (w2.heap.size + 1 + 1) ao gL len data.length P := fun w2 w3 gL hA hB hL => sure hin (hA.trans (hB.mono hA.size)) (by have := hA.size; omega) (by have := hA.size; omega) er hL
  have k24 : ∀ own w1 W R D pS lS fuel data, Inv own w1 W R D pS lS (.slice none 0 0) (.slice none 0 0) (.slice none 0 0) fuel [] [] data [] [] → Below w.heap.size w W → _ := fun own w1 W R D pS lS fuel data h hb => Enter.enter h args hal k pc none aa acap (by simp) (src_of ha hb)
  obtain ⟨⟨bl, off, rfl, _, t1, _, _⟩, _, hE⟩ := hin k hk
  obtain ⟨bl2, off2, e2, t2, _⟩ := hE j hj
  rw [e2] at t1
  rw [hpc] at t2
  have hbl := World.block_lt_of_cell? w _ t1
  have hbl2 := World.block_lt_of_cell? w _ t2
  have u1 : ∀ W, Below w.heap.size w W → W.cell? ⟨bl, off + k * 4 + 1, none⟩ = some (.slice (some ⟨bl2, off2, none⟩) (P k).el (P k).ec) := fun W hb => (hb.cell (p := ⟨bl, off + k * 4 + 1, none⟩) hbl).trans t1
  have u2 : ∀ W, Below w.heap.size w W → W.cell? ⟨bl2, off2 + j * 2, none⟩ = some (.int .i64 pc) := fun W hb => (hb.cell (p := ⟨bl2, off2 + j * 2, none⟩) hbl2).trans t2
  have hkI : (k : Int) < len := by omega
  have hlI : (len : Int) ≤ 5 := by omega
  have hjI : (j : Int) < (P k).el := by omega
  have heI : ((P k).el : Int) ≤ 8 := by omega
  have hfit0 : Fit len ⟨[⟨k, pc, pad args, [], none⟩], data, [], []⟩ := ⟨by simp, by simp, fun f hf => by simp at hf; subst hf; exact ⟨hk, by simp, fun q e => by cases e⟩, by simp, by simp⟩
  obtain ⟨el, eel⟩ : ∃ x, x = (P k).el := ⟨_, rfl⟩
  obtain ⟨ec, eec⟩ : ∃ x, x = (P k).ec := ⟨_, rfl⟩
  rw [← eel, ← eec] at u1
  rw [← eel] at hjI heI
  obtain ⟨r, er'⟩ : ∃ r, r = run wdoT P len fuel ⟨[⟨k, pc, pad args, [], none⟩], data, [], []⟩ := ⟨_, rfl⟩
  rw [← er']
  obtain ⟨nd, hnd⟩ : ∃ n, n = data.length := ⟨_, rfl⟩
  obtain ⟨na, hna⟩ : ∃ n, n = args.length := ⟨_, rfl⟩
  rw [← hnd] at k22 k23 ksure ⊢
  rw [← hna] at k22 k24 ⊢
  have K22 : Hid _ := k22
  have K23 : Hid _ := k23
  have K24 : Hid _ := k24
  have KBEG : Hid _ := kbeg
  have KSURE : Hid _ := ksure
  have U1 : Hid _ := u1
  have U2 : Hid _ := u2
  have FIT0 : Hid _ := hfit0
  have ER : Hid _ := er'
  have HND : Hid _ := hnd
  have HF : Hid _ := hf
  have HB0 : Hid _ := hb0
  clear k22 k23 k24 kbeg ksure u1 u2 hfit0 er' hnd hna hb0 hl hd ha er hk hj hn hw hpc h5 hp hen hal hdl t1 t2 hbl hbl2 e2 hE eel eec hlen
  go_enter Tryd.func14, Tryd.ntmps14
  go_wp2_with (first
    | (go_at_call 22; refine (K22.out _ HB0.out).mono ?_; rintro e w2 ⟨rfl, hb2⟩; obtain ⟨qm, qo⟩ := boxes2 hb2; have hA := HB0.out.trans (hb2.mono HB0.out.size); have HA : Hid _ := hA; have QO : Hid _ := qo; clear hb2 hA qo)
    | (go_at_call 23; refine (K23.out _ HA.out).mono ?_; rintro e w3 ⟨rfl, own, lS, bs, hbs, hrel⟩; obtain ⟨gL, capL, own', rfl, hI, hL⟩ := KBEG.out _ _ _ _ _ HA.out hbs hrel; have hB := hrel.below; have hA3 := HA.out.trans (hB.mono HA.out.size); have c1 := U1.out _ hA3; have c2 := U2.out _ hA3; have qm3 := (hB.cell (p := ⟨w.heap.size, 0, none⟩) (World.block_lt_of_cell? _ _ qm)).trans qm; have hS := KSURE.out _ _ _ HA.out hB (by rw [HND.out]; exact hL); have HS : Hid _ := hS; have HI : Hid _ := hI; have HB : Hid _ := hB; have HA3 : Hid _ := hA3; clear hS hI hB hA3 hrel hbs hL qm)
    | (go_at_call 24; refine (K24.out _ _ _ _ _ _ _ _ _ HI.out HA3.out).mono ?_; rintro e w4 ⟨rfl, own4, v4, hI4⟩; have HI4 : Hid _ := hI4; clear hI4))
  have k25 : ∀ W, StandsL w3 (w2.heap.size + 1) (w2.heap.size + 1 + 1) (.slice (some ⟨bl, off, none⟩) len cap) (.slice (some ⟨gL, 0, none⟩) len capL) P len nd r (.int .i64 0) W → _ := fun W h => roundL h HS.out
  have K25 : Hid _ := k25
  clear k25 c1 c2 qm3
  go_loopw [16] (fun e wr => StandsL w3 (w2.heap.size + 1) (w2.heap.size + 1 + 1) (.slice (some ⟨bl, off, none⟩) len cap) (.slice (some ⟨gL, 0, none⟩) len capL) P len nd r e wr) (fun e wr => left (w2.heap.size + 1) e wr)
  case atStart => exact .goes (n := fuel) (s := ⟨[⟨k, pc, pad args, [], none⟩], data, [], []⟩) HF.out HI4.out rfl rfl FIT0.out HND.out.symm ER.out.symm
  case round =>
    rcases stands_waysL hrel with ⟨rfl, hst⟩ | ⟨rfl, hn0, hb8, own5, vT, vC, C, hfin, hC⟩
    · have HST : Hid _ := hst
      clear hst hrel
      go_wp2_with (go_at_call 25; refine (K25.out _ HST.out).mono ?_; rintro e w' ⟨v, rfl, hst', hlt⟩; have HST' : Hid _ := hst'; have HLT : Hid _ := hlt; clear hst' hlt)
      go_roundw
      case rel => exact HST'.out
      case measure => exact HLT.out
    · obtain ⟨aT, cT, rfl⟩ := owned_form hfin.told
      obtain ⟨aC, cC, rfl⟩ := owned_form hfin.calls
      obtain ⟨fv, fu, hrun⟩ := hfin.run
      have x4 := hrun.cell 4 (v := .int .i64 0) rfl
      have x5 := hrun.cell 5 (v := .int .i64 r.2.1) rfl
      have x6 := hrun.cell 6 (v := .slice aT r.2.2.told.length cT) rfl
      have x7 := hrun.cell 7 (v := .slice (some ⟨w2.heap.size + 1 + 1, 0, none⟩) r.2.2.data.length r.2.2.data.length) rfl
      have x8 := hrun.cell 8 (v := .slice aC C.length cC) rfl
      have y4 := hrun.frozen 4
      have hA2 := HA.out.size
      have ho : wr.heap[w.heap.size + 1]? = some (.cells #[.int .i64 0, .int .i64 0, .slice none 0 0, .slice none 0 0, .slice none 0 0] 41 (0, 0)) := by
        have h1 : w.heap.size + 1 < w2.heap.size := (Array.getElem?_eq_some_iff.1 QO.out).1
        have h2 := (hfin.base.kept (w.heap.size + 1) (Nat.lt_of_lt_of_le h1 HB.out.size) (by omega) (by omega)).2
        rw [h2, HB.out.block _ h1]
        exact QO.out
      have o := fun i => cell_of_row wr (w.heap.size + 1) i _ 41 (0, 0) ho
      have o0 : wr.cell? ⟨w.heap.size + 1, 0, none⟩ = some (.int .i64 0) := o 0
      have o1 : wr.cell? ⟨w.heap.size + 1, 1, none⟩ = some (.int .i64 0) := o 1
      have o2 : wr.cell? ⟨w.heap.size + 1, 2, none⟩ = some (.slice none 0 0) := o 2
      have o3 : wr.cell? ⟨w.heap.size + 1, 3, none⟩ = some (.slice none 0 0) := o 3
      have o4 : wr.cell? ⟨w.heap.size + 1, 4, none⟩ = some (.slice none 0 0) := o 4
      have p0 := frozen_of_row wr (w.heap.size + 1) 0 _ 41 ho
      have p1 := frozen_of_row wr (w.heap.size + 1) 1 _ 41 ho
      have p2 := frozen_of_row wr (w.heap.size + 1) 2 _ 41 ho
      have p3 := frozen_of_row wr (w.heap.size + 1) 3 _ 41 ho
      have p4 := frozen_of_row wr (w.heap.size + 1) 4 _ 41 ho
      have hne1 : w.heap.size + 1 ≠ w2.heap.size + 1 := by have h1 : w.heap.size + 1 < w2.heap.size := (Array.getElem?_eq_some_iff.1 QO.out).1; omega
      have hne2 : w2.heap.size + 1 ≠ w.heap.size + 1 := Ne.symm hne1
      have hn1 : (r.1 == 0) = false := by simpa using hn0
      obtain ⟨n1, en1⟩ : ∃ n, n = r.1 := ⟨_, rfl⟩
      obtain ⟨v1, ev1⟩ : ∃ n, n = r.2.1 := ⟨_, rfl⟩
      obtain ⟨nT, enT⟩ : ∃ n, n = r.2.2.told.length := ⟨_, rfl⟩
      obtain ⟨nD, enD⟩ : ∃ n, n = r.2.2.data.length := ⟨_, rfl⟩
      obtain ⟨nC, enC⟩ : ∃ n, n = C.length := ⟨_, rfl⟩
      rw [← en1] at hn1 ⊢
      rw [← ev1] at x5
      rw [← enT] at x6
      rw [← enD] at x7
      rw [← enC] at x8
      have E1 : Hid _ := en1
      have E2 : Hid _ := ev1
      have E3 : Hid _ := enT
      have E4 : Hid _ := enD
      have E5 : Hid _ := enC
      have FIN : Hid _ := hfin
      have HCC : Hid _ := hC
      clear en1 ev1 enT enD enC hfin hC hrun ho o hrel hn0 hb8 hA2
      go_wp2
      refine bodyPost_ret (v := .tuple #[.agg #[.int .i64 n1, .int .i64 v1, .slice aT nT cT, .slice (some ⟨w2.heap.size + 1 + 1, 0, none⟩) nD nD, .slice aC nC cC], .int .i64 0]) (by simp [results, Tryd.results14, go_sem, *]) rfl ?_
      rw [E1.out, E2.out, E3.out, E4.out, E5.out]
      exact gave HA3.out HB.out FIN.out HCC.out (by have h1 : w.heap.size + 1 < w2.heap.size := (Array.getElem?_eq_some_iff.1 QO.out).1; omega) _ _ _ _ _ _
end Go.Proofs.YtmbbkabecipkaacDoor.MRunL

namespace Go.Proofs.YtmbbkabecipkaacDoor.REnds
open Go.RowKit Tab Go.Proofs.YtmbbkabecipkaacDoor.Check Lists Go.Proofs.YtmbbkabecipkaacDoor.Read Img Mach Own Go.Proofs.YtmbbkabecipkaacDoor.Inv RunBad RunNot RInv RSlot MRun

/-- where the loop began, and where the result lies -/
structure Begun (w w1 : World) (bR : Nat) : Prop where
  below : Below w.heap.size w w1
  lo : w.heap.size ≤ bR
  hi : bR < w1.heap.size
  zero : w1.heap[bR]? = some (.cells RunBad.zero 41 (0, 0))

section
variable {own : Nat → Tag} {w w1 wr w' : World} {bO bR : Nat} {vR vT vD vC : Value} {G : List (Fr × Nat × Value)} {data told : List Int} {C : List (Rec × Value)} {r : Int × Int × St} {rm : List Fr} {e val : Int}

theorem owns_from {et : TypeId} {size n : Nat} {u : Value} {xs : List Value} {t : Tag} (hT : Begun w w1 bR) (hb : RBase own w1 wr) (h : Owned own w' et size u n xs t) (ht : t ≠ (0, 0)) : w'.ownsRow w.heap.size et size u n xs := by
  refine ⟨h.row.1, ?_⟩
  rcases h.row.2 with hn | ⟨g, cap, cur, rfl, _, r⟩
  · exact .inl hn
  · refine .inr ⟨g, cap, cur, rfl, ?_, r⟩
    refine Nat.le_trans hT.below.size (Nat.le_of_not_lt fun hlt => ht ?_)
    rw [← h.tag g rfl]
    exact (hb.kept g hlt).1

theorem gave (h : RInv own w1 wr bO vR vT vD vC G data told C) (hT : Begun w w1 bR) (mv : Moves own own wr w' (1, 0)) (cs : Array Value) (hr : (e, val, (⟨rm, data, told, C.map Prod.fst⟩ : St)) = r) :
    Gave w r (.returned (.tuple #[.agg #[.int .i64 e, .int .i64 val, vT, vD, vC], .int .i64 0])) (w'.setRow bR cs) := by
  subst hr
  have htag : own bR = (0, 0) := (h.base.kept bR hT.hi).1
  have m2 := Moves.setRow own w' bR cs htag
  have hb := (h.base.moves mv (by simp)).below
  refine ⟨(hT.below.trans (hb.mono hT.below.size)).trans ⟨rfl, rfl, rfl, by simp, fun k hk => setRow_other _ _ _ _ (by have := hT.lo; omega)⟩, vT, vD, vC, rfl, ?_⟩
  exact ⟨owns_from hT h.base ((h.told.moves mv (by simp)).moves m2 (by simp)) (by simp), owns_from hT h.base ((h.dat.moves mv (by simp)).moves m2 (by simp)) (by simp),
    C, rfl, owns_from hT h.base ((h.calls.moves mv (by simp)).moves m2 (by simp)) (by simp), fun k r v hk => owns_from hT h.base (((h.notes k r v hk).moves mv (by simp)).moves m2 (by simp)) (by simp)⟩

theorem zero_at (h : RInv own w1 wr bO vR vT vD vC G data told C) (hT : Begun w w1 bR) : wr.heap[bR]? = some (.cells RunBad.zero 41 (0, 0)) := (h.base.kept bR hT.hi).2.trans hT.zero

theorem apart (h : RInv own w1 wr bO vR vT vD vC G data told C) (hT : Begun w w1 bR) : bR ≠ bO := fun e => by
  have h1 := (h.base.kept bR hT.hi).1
  rw [e, h.out.tag] at h1
  cases h1

theorem zero_set (h : RInv own w1 wr bO vR vT vD vC G data told C) (hT : Begun w w1 bR) (j : Nat) (u : Value) : (wr.setCell ⟨bO, j, none⟩ u).heap[bR]? = some (.cells RunBad.zero 41 (0, 0)) := by
  rw [Below.heap_setCell _ _ _ _ (fun e => apart h hT e)]
  exact zero_at h hT

theorem ones {vT vD vC : Value} {a b : Int} {n1 n2 n3 c1 c2 c3 : Nat} {a1 a2 a3 : Option Addr} (h1 : vT = .slice a1 n1 c1) (h2 : vD = .slice a2 n2 c2) (h3 : vC = .slice a3 n3 c3) : (#[.int .i64 a, .int .i64 b, vT, vD, vC] : Array Value).all (·.oneCell') = true := by
  subst h1 h2 h3
  simp [Value.oneCell']
end
end Go.Proofs.YtmbbkabecipkaacDoor.REnds

namespace Go.Proofs.YtmbbkabecipkaacDoor.RFetch
open Go.RowKit Tab Go.Proofs.YtmbbkabecipkaacDoor.Check Lists Go.Proofs.YtmbbkabecipkaacDoor.Read Img Mach Own Go.Proofs.YtmbbkabecipkaacDoor.Inv RunBad RunNot RInv RSlot REnds Take MRun
set_option linter.unusedVariables false

set_option maxRecDepth 1000000 in
set_option maxHeartbeats 4000000 in
/-- fuel is there: one less; and the last room -/
theorem room {A : Array Value} {fuel : Int} {bM bR bO : Nat} {vR v19 v20 v21 v22 v23 v24 v25 v28 : Value} {w w1 wr : World} {own : Nat → Tag} {vT vD vC : Value} {G : List (Fr × Nat × Value)} {f : Fr} {b : Nat} {v : Value} {data told : List Int} {C : List (Rec × Value)} {R : Act → World → Prop} {K0 K2 : Act → World → Prop} {R0 : Ending → World → Prop} {r : Int × Int × St} {rm : List Fr} (hs : Sl A fuel bM bR bO vR v19 v20 v21 v22 v23 v24 v25 v28) (h : RInv own w1 wr bO vR vT vD vC ((f, b, v) :: G) data told C) (hG : G.length < 20) (h0 : 0 < fuel) (h1 : fuel ≤ 100000)
    (hR : ∀ A', Sl A' (fuel - 1) bM bR bO vR (.pointer (some ⟨b, 0, none⟩)) v20 v21 v22 v23 v24 v25 v28 → R ⟨A', []⟩ wr) :
    RInv.upto Tryd.prog 3 (RInv.inside (RInv.behind 1 (((Tryd.f15.body.map RInv.loops).getD []).getD 1 .skip))) R (Exit.inBlock 3 (Exit.then K0 (Exit.inBlock 2 (Exit.then K2 (bodyPost Tryd.prog Tryd.f15 R0))))) ⟨A, []⟩ wr := by
  obtain ⟨u, rfl⟩ := fold hs
  obtain ⟨gR, cR, e, _, _⟩ := h.row.form (by simp)
  simp only [List.length_cons] at e
  subst e
  have c0 := h.top_ptr
  have hne : (fuel == 0) = false := by simp; omega
  obtain ⟨k, hk⟩ : ∃ k, k = G.length := ⟨_, rfl⟩
  rw [← hk] at c0 hG
  have hkI : (k : Int) < 20 := by omega
  rw [← hk] at hR ⊢
  clear hs h hk
  have HR : Hid _ := hR
  clear hR
  conv => arg 3; whnf
  refine upto_seq ?_
  go_wp2
  refine upto_seq ?_
  go_wp2
  refine upto_seq ?_
  go_wp2
  exact HR.out _ ⟨rfl, rfl, rfl, rfl, rfl, rfl, rfl, rfl, rfl, rfl, rfl, rfl, rfl, rfl, rfl⟩

set_option maxRecDepth 1000000 in
set_option maxHeartbeats 4000000 in
/-- no fuel -/
theorem spent {A : Array Value} {fuel : Int} {bM bR bO : Nat} {vR v19 v20 v21 v22 v23 v24 v25 v28 : Value} {w w1 wr : World} {own : Nat → Tag} {vT vD vC : Value} {G : List (Fr × Nat × Value)} {f : Fr} {b : Nat} {v : Value} {data told : List Int} {C : List (Rec × Value)} {R : Act → World → Prop} {K0 K2 : Act → World → Prop} {R0 : Ending → World → Prop} {r : Int × Int × St} {rm : List Fr} (hs : Sl A 0 bM bR bO vR v19 v20 v21 v22 v23 v24 v25 v28) (h : RInv own w1 wr bO vR vT vD vC G data told C) (hT : Begun w w1 bR) (hr : (3, 0, (⟨rm, data, told, C.map Prod.fst⟩ : St)) = r) (hR0 : R0 = Gave w r) :
    RInv.upto Tryd.prog 3 (RInv.inside (RInv.behind 1 (((Tryd.f15.body.map RInv.loops).getD []).getD 1 .skip))) R (Exit.inBlock 3 (Exit.then K0 (Exit.inBlock 2 (Exit.then K2 (bodyPost Tryd.prog Tryd.f15 R0))))) ⟨A, []⟩ wr := by
  obtain ⟨u, rfl⟩ := fold hs
  subst hR0
  obtain ⟨a1, x1, rfl⟩ := owned_form h.told
  obtain ⟨a2, x2, rfl⟩ := owned_form h.dat
  obtain ⟨a3, x3, rfl⟩ := owned_form h.calls
  have hz := zero_set h hT 0 (.int .i64 3)
  have c0 := h.out.cell 0 (v := .int .i64 0) rfl
  have c1 := h.out.cell 1 (v := .int .i64 0) rfl
  have c2 := h.out.cell 2 (v := .slice a1 told.length x1) rfl
  have c3 := h.out.cell 3 (v := .slice a2 data.length x2) rfl
  have c4 := h.out.cell 4 (v := .slice a3 C.length x3) rfl
  have z0 := h.out.frozen 0
  have one := ones (a := 3) (b := 0) (rfl : Value.slice a1 told.length x1 = _) (rfl : Value.slice a2 data.length x2 = _) (rfl : Value.slice a3 C.length x3 = _)
  have fin := gave h hT (Moves.setCell own wr bO 0 (.int .i64 3) h.out.tag) #[.int .i64 3, .int .i64 0, .slice a1 told.length x1, .slice a2 data.length x2, .slice a3 C.length x3] hr
  obtain ⟨nT, eT⟩ : ∃ n, n = told.length := ⟨_, rfl⟩
  obtain ⟨nD, eD⟩ : ∃ n, n = data.length := ⟨_, rfl⟩
  obtain ⟨nC, eC⟩ : ∃ n, n = C.length := ⟨_, rfl⟩
  rw [← eT] at c2 one fin
  rw [← eD] at c3 one fin
  rw [← eC] at c4 one fin
  have HZ : Hid _ := hz
  have ONE : Hid _ := one
  have FIN : Hid _ := fin
  clear hs h hz one fin hT hr eT eD eC
  conv => arg 3; whnf
  refine upto_seq ?_
  go_wp2_with ((with_reducible show wpList _ _ _ ({ dst := none, op := Op.store 41 _ _, type := _, pos := _, after := _, guard := _ } :: _) _ _); refine wpList_store_row rfl 41 _ _ rfl bR #[.int .i64 3, .int .i64 0, .slice a1 nT x1, .slice a2 nD x2, .slice a3 nC x3] rfl rfl 41 zero HZ.out size41 rfl ONE.out ?_)
  refine bodyPost_ret (results5 _ _ bR #[.int .i64 3, .int .i64 0, .slice a1 nT x1, .slice a2 nD x2, .slice a3 nC x3] 41 (0, 0) _ rfl rfl (setRow_heap _ _ _ _ _ _ HZ.out) rfl) rfl ?_
  exact FIN.out
end Go.Proofs.YtmbbkabecipkaacDoor.RFetch
