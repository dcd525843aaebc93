/-
  WHAT mach.Run GIVES where it refuses nothing, of an image whose run comes to no Call and to no Gate that goes through: what the plain machine gives.
  Conditions: the table 'code.bounds' lies there, the image's parts, the data and the words.
-/
import Derived.Test.YtmmcpjmgindpkacDoorMRun
import Derived.Test.YtmmcpjmgindpkacDoorStepS
namespace Go.Proofs.YtmmcpjmgindpkacDoor.MRunS
open Go.RowKit Tab Go.Proofs.YtmmcpjmgindpkacDoor.Check Lists Go.Proofs.YtmmcpjmgindpkacDoor.Read Img Mach Own Go.Proofs.YtmmcpjmgindpkacDoor.Inv Go.Proofs.YtmmcpjmgindpkacDoor.Frame Take Go.Proofs.YtmmcpjmgindpkacDoor.Went Go.Proofs.YtmmcpjmgindpkacDoor.Entry ActE ActQ StepQ StepS Go.Proofs.YtmmcpjmgindpkacDoor.Start MCheck MRun

structure StandsS (w3 : World) (R D : Nat) (pS lS : Value) (P : Nat → PartD) (len dlen : Nat) (r : Int × Int × St) (e : Value) (wr : World) : Prop where
  out : (∃ (n : Nat) (s : St) (own : Nat → Tag) (vF vT vC : Value) (F : List (Fr × Value)) (C : List (Rec × Value)), n ≤ 100000 ∧ Inv own w3 wr R D pS lS vF vT vC n F [] s.data s.told C ∧ F.map Prod.fst = s.rooms ∧ C.map Prod.fst = s.calls ∧ Fit len s ∧ s.data.length = dlen ∧ run wdoT P len n s = r ∧ QuietFor P len n s ∧ e = .int .i64 0) ∨
    (∃ (own : Nat → Tag) (vT vC : Value) (C : List (Rec × Value)), Fin own w3 wr R D pS lS vT vC r.2.1 r.2.2.data r.2.2.told C ∧ C.map Prod.fst = r.2.2.calls ∧ r.1 ≠ 0 ∧ (-10 ≤ r.1 ∧ r.1 ≤ 10) ∧ e = .int .i64 r.1)

theorem StandsS.goes {w3 : World} {R D : Nat} {pS lS : Value} {P : Nat → PartD} {len dlen : Nat} {r : Int × Int × St} {wr : World} {n : Nat} {s : St} {own : Nat → Tag} {vF vT vC : Value} {F : List (Fr × Value)} {C : List (Rec × Value)} (hn : n ≤ 100000) (h : Inv own w3 wr R D pS lS vF vT vC n F [] s.data s.told C) (h1 : F.map Prod.fst = s.rooms) (h2 : C.map Prod.fst = s.calls) (hf : Fit len s) (hd : s.data.length = dlen) (hr : run wdoT P len n s = r) (hqf : QuietFor P len n s) : StandsS w3 R D pS lS P len dlen r (.int .i64 0) wr :=
  ⟨.inl ⟨n, s, own, vF, vT, vC, F, C, hn, h, h1, h2, hf, hd, hr, hqf, rfl⟩⟩

theorem StandsS.stops {w3 : World} {R D : Nat} {pS lS : Value} {P : Nat → PartD} {len dlen : Nat} {r : Int × Int × St} {wr : World} {own : Nat → Tag} {vT vC : Value} {C : List (Rec × Value)} (h : Fin own w3 wr R D pS lS vT vC r.2.1 r.2.2.data r.2.2.told C) (h2 : C.map Prod.fst = r.2.2.calls) (hn : r.1 ≠ 0) (h8 : -10 ≤ r.1 ∧ r.1 ≤ 10) : StandsS w3 R D pS lS P len dlen r (.int .i64 r.1) wr :=
  ⟨.inr ⟨own, vT, vC, C, h, h2, hn, h8, rfl⟩⟩

/-- a round of Run's loop -/
theorem roundS {w3 wr : World} {R D : Nat} {ao : Option Addr} {len capP gL capL : Nat} {P : Nat → PartD} {dlen : Nat} {r : Int × Int × St} (h : StandsS w3 R D (.slice ao len capP) (.slice (some ⟨gL, 0, none⟩) len capL) P len dlen r (.int .i64 0) wr) (hS : Sure w3 R D ao gL len dlen P) :
    Calls Tryd.prog 25 #[.pointer (some ⟨R, 0, none⟩)] wr fun e w' => ∃ v, e = .returned v ∧ StandsS w3 R D (.slice ao len capP) (.slice (some ⟨gL, 0, none⟩) len capL) P len dlen r v w' ∧ left R v w' < left R (.int .i64 0) wr := by
  have hout := h.out
  clear h
  rcases hout with ⟨n, s, own, vF, vT, vC, F, C, hn, h, h1, h2, hf, hd, hr, hqf, _⟩ | ⟨_, _, _, _, _, _, hn, _, e0⟩
  rotate_left
  · injection e0 with _ e0
    exact absurd e0.symm hn
  · skip
    obtain ⟨rooms, data, told, calls⟩ := s
    try dsimp only at h h1 h2 hd
    subst h1 h2 hd
    have c3 : wr.cell? ⟨R, 3, none⟩ = some (.int .i64 n) := h.run.cell 3 rfl
    have hl0 : left R (.int .i64 0) wr = n + 2 := by simp [left, c3, intOf]
    rw [hl0]
    cases n with
    | zero =>
      refine (Step.spent (by simpa using h)).mono ?_
      rintro e w' ⟨rfl, rfl⟩
      subst hr
      refine ⟨_, rfl, .stops (r := (3, 0, _)) h.fin rfl (by simp) (by simp), ?_⟩
      simp [left, intOf]
    | succ n =>
      refine (steppedS n (by omega) (by simpa using h) hS hqf.1 hf).mono ?_
      intro e w' hwent
      generalize eo : Mach.step wdoT P len ⟨F.map Prod.fst, data, told, C.map Prod.fst⟩ = o at hwent
      rcases hwent.out with ⟨s', own', vF', vT', vC', F', C', h', g1, g2, rfl, rfl⟩ | ⟨n', val, s', own', vT', vC', C', h', g2, rfl, rfl⟩
      ·
        have c3' : w'.cell? ⟨R, 3, none⟩ = some (.int .i64 n) := h'.run.cell 3 rfl
        exact ⟨_, rfl, .goes (by omega) h' g1 g2 (step_fit eo hf hS.code) (step_data.1 _ eo) (by rw [← hr, run_next eo]) (hqf.2 _ eo), by simp [left, c3', intOf]⟩
      ·
        have hb := step_data.2 _ eo
        have hr' : r = (n', val, s') := by rw [← hr, run_ends eo]
        subst hr'
        refine ⟨_, rfl, .stops (r := (n', val, s')) h' g2 hb.1 hb.2, ?_⟩
        have : n' ≠ 0 := hb.1
        simp [left, intOf, this]

theorem stands_waysS {w3 wr : World} {R D : Nat} {pS lS : Value} {P : Nat → PartD} {len dlen : Nat} {r : Int × Int × St} {v : Value} (h : StandsS w3 R D pS lS P len dlen r v wr) : (v = .int .i64 0 ∧ StandsS w3 R D pS lS P len dlen r (.int .i64 0) wr) ∨
    (v = .int .i64 r.1 ∧ r.1 ≠ 0 ∧ (-10 ≤ r.1 ∧ r.1 ≤ 10) ∧ ∃ own vT vC C, Fin own w3 wr R D pS lS vT vC r.2.1 r.2.2.data r.2.2.told C ∧ C.map Prod.fst = r.2.2.calls) := by
  rcases h.out with ⟨n, s, own, vF, vT, vC, F, C, hn, h, h1, h2, hf, hd, hr, hqf, he⟩ | ⟨own, vT, vC, C, h, h2, hn, h8, he⟩
  · exact .inl ⟨he, .goes hn h h1 h2 hf hd hr hqf⟩
  · exact .inr ⟨he, hn, h8, own, vT, vC, C, h, h2⟩

set_option maxRecDepth 100000 in
set_option maxHeartbeats 2000000 in
theorem mrunS (ao : Option Addr) (len cap : Nat) (hlen : len ≤ maxLen) (P : Nat → PartD) (da : Option Addr) (data : List Int) (dcap : Nat) (aa : Option Addr) (args : List Int) (acap : Nat) (k j fuel pc : Nat) (w : World) (hl : Lies w) (hin : Parts w ao len P) (hd : Ints w da data.length (fun i => data.getD i 0)) (ha : Ints w aa args.length (fun i => args.getD i 0))
    (er : dataFault P len (fun i => data.getD i 0) data.length = 0) (hk : k < len) (hj : j < (P k).el) (hn : (args.length : Int) = (P k).prs j) (hf : fuel ≤ 100000) (hw : first (fun i => wordFault (args.getD i 0)) args.length = 0) (hpc : (P k).ats j = pc) (hq : QuietFor P len fuel ⟨[⟨k, pc, pad args, [], none⟩], data, [], []⟩) :
    Calls Tryd.prog 14 #[.agg #[.slice ao len cap], .slice da data.length dcap, .int .i64 k, .int .i64 j, .slice aa args.length acap, .int .i64 fuel] w (Gave w (run wdoT P len fuel ⟨[⟨k, pc, pad args, [], none⟩], data, [], []⟩)) := by
  have h5 := (imageFault_zero (dataFault_zero er).1).1
  have hp := part_sure (first_zero (imageFault_zero (dataFault_zero er).1).2 k hk)
  have hen := entry_sure (first_zero hp.2.2.2 j hj)
  have hal : args.length ≤ 4 := by omega
  have hdl : data.length ≤ 250 := (inside er hk).2.2
  have hb0 := below2 w (.cells #[.slice ao len cap] 24) (.cells #[.int .i64 0, .int .i64 0, .slice none 0 0, .slice none 0 0, .slice none 0 0] 41)
  have k22 : ∀ W, Below w.heap.size w W → _ := fun W hb => check_ok ao len cap hlen P da data.length dcap (fun i => data.getD i 0) aa args.length acap (fun i => args.getD i 0) k j fuel W (Lies_below hl hb) (Parts_below hin hb) (Ints_below hd hb) (Ints_below ha hb) er hk hj hn (by omega) (by omega) hw
  have k23 : ∀ W, Below w.heap.size w W → _ := fun W hb => Start.start ao len cap h5 P data hdl da dcap (fuel : Int) W (Parts_below hin hb) (src_of hd hb)
  have kbeg : ∀ w2 w3 own lS bs, Below w.heap.size w w2 → bs.length = len → Rel w2 (w2.heap.size + 1) (w2.heap.size + 1 + 1) ao len cap fuel data P own lS bs w3 → _ := fun w2 w3 own lS bs hA hbs hrel => begins hrel hbs (by omega) (by omega) (by omega)
  have ksure : ∀ w2 w3 gL, Below w.heap.size w w2 → Below w2.heap.size w2 w3 → Go.Proofs.YtmmcpjmgindpkacDoor.Look.Looks w3 (w2.heap.size + 1) (w2.heap.size + 1 + 1) gL len data.length P → Sure w3 (w2.heap.size + 1) (w2.heap.size + 1 + 1) ao gL len data.length P := fun w2 w3 gL hA hB hL => sure hin (hA.trans (hB.mono hA.size)) (by have := hA.size; omega) (by have := hA.size; omega) er hL
  have k24 : ∀ own w1 W R D pS lS fuel data, Inv own w1 W R D pS lS (.slice none 0 0) (.slice none 0 0) (.slice none 0 0) fuel [] [] data [] [] → Below w.heap.size w W → _ := fun own w1 W R D pS lS fuel data h hb => Enter.enter h args hal k pc none aa acap (by simp) (src_of ha hb)
  obtain ⟨⟨bl, off, rfl, _, t1, _, _⟩, _, hE⟩ := hin k hk
  obtain ⟨bl2, off2, e2, t2, _⟩ := hE j hj
  rw [e2] at t1
  rw [hpc] at t2
  have hbl := World.block_lt_of_cell? w _ t1
  have hbl2 := World.block_lt_of_cell? w _ t2
  have u1 : ∀ W, Below w.heap.size w W → W.cell? ⟨bl, off + k * 4 + 1, none⟩ = some (.slice (some ⟨bl2, off2, none⟩) (P k).el (P k).ec) := fun W hb => (hb.cell (p := ⟨bl, off + k * 4 + 1, none⟩) hbl).trans t1
  have u2 : ∀ W, Below w.heap.size w W → W.cell? ⟨bl2, off2 + j * 2, none⟩ = some (.int .i64 pc) := fun W hb => (hb.cell (p := ⟨bl2, off2 + j * 2, none⟩) hbl2).trans t2
  have hkI : (k : Int) < len := by omega
  have hlI : (len : Int) ≤ 5 := by omega
  have hjI : (j : Int) < (P k).el := by omega
  have heI : ((P k).el : Int) ≤ 8 := by omega
  have hfit0 : Fit len ⟨[⟨k, pc, pad args, [], none⟩], data, [], []⟩ := ⟨by simp, by simp, fun f hf => by simp at hf; subst hf; exact ⟨hk, by simp, fun q e => by cases e⟩, by simp, by simp⟩
  obtain ⟨el, eel⟩ : ∃ x, x = (P k).el := ⟨_, rfl⟩
  obtain ⟨ec, eec⟩ : ∃ x, x = (P k).ec := ⟨_, rfl⟩
  rw [← eel, ← eec] at u1
  rw [← eel] at hjI heI
  obtain ⟨r, er'⟩ : ∃ r, r = run wdoT P len fuel ⟨[⟨k, pc, pad args, [], none⟩], data, [], []⟩ := ⟨_, rfl⟩
  rw [← er']
  obtain ⟨nd, hnd⟩ : ∃ n, n = data.length := ⟨_, rfl⟩
  obtain ⟨na, hna⟩ : ∃ n, n = args.length := ⟨_, rfl⟩
  rw [← hnd] at k22 k23 ksure ⊢
  rw [← hna] at k22 k24 ⊢
  have K22 : Hid _ := k22
  have K23 : Hid _ := k23
  have K24 : Hid _ := k24
  have KBEG : Hid _ := kbeg
  have KSURE : Hid _ := ksure
  have U1 : Hid _ := u1
  have U2 : Hid _ := u2
  have FIT0 : Hid _ := hfit0
  have ER : Hid _ := er'
  have HND : Hid _ := hnd
  have HQ : Hid _ := hq
  have HF : Hid _ := hf
  have HB0 : Hid _ := hb0
  clear k22 k23 k24 kbeg ksure u1 u2 hfit0 er' hnd hna hq hb0 hl hd ha er hk hj hn hw hpc h5 hp hen hal hdl t1 t2 hbl hbl2 e2 hE eel eec hlen
  go_enter Tryd.func14, Tryd.ntmps14
  go_wp2_with (first
    | (go_at_call 22; refine (K22.out _ HB0.out).mono ?_; rintro e w2 ⟨rfl, hb2⟩; obtain ⟨qm, qo⟩ := boxes2 hb2; have hA := HB0.out.trans (hb2.mono HB0.out.size); have HA : Hid _ := hA; have QO : Hid _ := qo; clear hb2 hA qo)
    | (go_at_call 23; refine (K23.out _ HA.out).mono ?_; rintro e w3 ⟨rfl, own, lS, bs, hbs, hrel⟩; obtain ⟨gL, capL, own', rfl, hI, hL⟩ := KBEG.out _ _ _ _ _ HA.out hbs hrel; have hB := hrel.below; have hA3 := HA.out.trans (hB.mono HA.out.size); have c1 := U1.out _ hA3; have c2 := U2.out _ hA3; have qm3 := (hB.cell (p := ⟨w.heap.size, 0, none⟩) (World.block_lt_of_cell? _ _ qm)).trans qm; have hS := KSURE.out _ _ _ HA.out hB (by rw [HND.out]; exact hL); have HS : Hid _ := hS; have HI : Hid _ := hI; have HB : Hid _ := hB; have HA3 : Hid _ := hA3; clear hS hI hB hA3 hrel hbs hL qm)
    | (go_at_call 24; refine (K24.out _ _ _ _ _ _ _ _ _ HI.out HA3.out).mono ?_; rintro e w4 ⟨rfl, own4, v4, hI4⟩; have HI4 : Hid _ := hI4; clear hI4))
  have k25 : ∀ W, StandsS w3 (w2.heap.size + 1) (w2.heap.size + 1 + 1) (.slice (some ⟨bl, off, none⟩) len cap) (.slice (some ⟨gL, 0, none⟩) len capL) P len nd r (.int .i64 0) W → _ := fun W h => roundS h HS.out
  have K25 : Hid _ := k25
  clear k25 c1 c2 qm3
  go_loopw [16] (fun e wr => StandsS w3 (w2.heap.size + 1) (w2.heap.size + 1 + 1) (.slice (some ⟨bl, off, none⟩) len cap) (.slice (some ⟨gL, 0, none⟩) len capL) P len nd r e wr) (fun e wr => left (w2.heap.size + 1) e wr)
  case atStart => exact .goes (n := fuel) (s := ⟨[⟨k, pc, pad args, [], none⟩], data, [], []⟩) HF.out HI4.out rfl rfl FIT0.out HND.out.symm ER.out.symm HQ.out
  case round =>
    rcases stands_waysS hrel with ⟨rfl, hst⟩ | ⟨rfl, hn0, hb8, own5, vT, vC, C, hfin, hC⟩
    · have HST : Hid _ := hst
      clear hst hrel
      go_wp2_with (go_at_call 25; refine (K25.out _ HST.out).mono ?_; rintro e w' ⟨v, rfl, hst', hlt⟩; have HST' : Hid _ := hst'; have HLT : Hid _ := hlt; clear hst' hlt)
      go_roundw
      case rel => exact HST'.out
      case measure => exact HLT.out
    · obtain ⟨aT, cT, rfl⟩ := owned_form hfin.told
      obtain ⟨aC, cC, rfl⟩ := owned_form hfin.calls
      obtain ⟨fv, fu, hrun⟩ := hfin.run
      have x4 := hrun.cell 4 (v := .int .i64 0) rfl
      have x5 := hrun.cell 5 (v := .int .i64 r.2.1) rfl
      have x6 := hrun.cell 6 (v := .slice aT r.2.2.told.length cT) rfl
      have x7 := hrun.cell 7 (v := .slice (some ⟨w2.heap.size + 1 + 1, 0, none⟩) r.2.2.data.length r.2.2.data.length) rfl
      have x8 := hrun.cell 8 (v := .slice aC C.length cC) rfl
      have y4 := hrun.frozen 4
      have hA2 := HA.out.size
      have ho : wr.heap[w.heap.size + 1]? = some (.cells #[.int .i64 0, .int .i64 0, .slice none 0 0, .slice none 0 0, .slice none 0 0] 41 (0, 0)) := by
        have h1 : w.heap.size + 1 < w2.heap.size := (Array.getElem?_eq_some_iff.1 QO.out).1
        have h2 := (hfin.base.kept (w.heap.size + 1) (Nat.lt_of_lt_of_le h1 HB.out.size) (by omega) (by omega)).2
        rw [h2, HB.out.block _ h1]
        exact QO.out
      have o := fun i => cell_of_row wr (w.heap.size + 1) i _ 41 (0, 0) ho
      have o0 : wr.cell? ⟨w.heap.size + 1, 0, none⟩ = some (.int .i64 0) := o 0
      have o1 : wr.cell? ⟨w.heap.size + 1, 1, none⟩ = some (.int .i64 0) := o 1
      have o2 : wr.cell? ⟨w.heap.size + 1, 2, none⟩ = some (.slice none 0 0) := o 2
      have o3 : wr.cell? ⟨w.heap.size + 1, 3, none⟩ = some (.slice none 0 0) := o 3
      have o4 : wr.cell? ⟨w.heap.size + 1, 4, none⟩ = some (.slice none 0 0) := o 4
      have p0 := frozen_of_row wr (w.heap.size + 1) 0 _ 41 ho
      have p1 := frozen_of_row wr (w.heap.size + 1) 1 _ 41 ho
      have p2 := frozen_of_row wr (w.heap.size + 1) 2 _ 41 ho
      have p3 := frozen_of_row wr (w.heap.size + 1) 3 _ 41 ho
      have p4 := frozen_of_row wr (w.heap.size + 1) 4 _ 41 ho
      have hne1 : w.heap.size + 1 ≠ w2.heap.size + 1 := by have h1 : w.heap.size + 1 < w2.heap.size := (Array.getElem?_eq_some_iff.1 QO.out).1; omega
      have hne2 : w2.heap.size + 1 ≠ w.heap.size + 1 := Ne.symm hne1
      have hn1 : (r.1 == 0) = false := by simpa using hn0
      obtain ⟨n1, en1⟩ : ∃ n, n = r.1 := ⟨_, rfl⟩
      obtain ⟨v1, ev1⟩ : ∃ n, n = r.2.1 := ⟨_, rfl⟩
      obtain ⟨nT, enT⟩ : ∃ n, n = r.2.2.told.length := ⟨_, rfl⟩
      obtain ⟨nD, enD⟩ : ∃ n, n = r.2.2.data.length := ⟨_, rfl⟩
      obtain ⟨nC, enC⟩ : ∃ n, n = C.length := ⟨_, rfl⟩
      rw [← en1] at hn1 ⊢
      rw [← ev1] at x5
      rw [← enT] at x6
      rw [← enD] at x7
      rw [← enC] at x8
      have E1 : Hid _ := en1
      have E2 : Hid _ := ev1
      have E3 : Hid _ := enT
      have E4 : Hid _ := enD
      have E5 : Hid _ := enC
      have FIN : Hid _ := hfin
      have HCC : Hid _ := hC
      clear en1 ev1 enT enD enC hfin hC hrun ho o hrel hn0 hb8 hA2
      go_wp2
      refine bodyPost_ret (v := .tuple #[.agg #[.int .i64 n1, .int .i64 v1, .slice aT nT cT, .slice (some ⟨w2.heap.size + 1 + 1, 0, none⟩) nD nD, .slice aC nC cC], .int .i64 0]) (by simp [results, Tryd.results14, go_sem, *]) rfl ?_
      rw [E1.out, E2.out, E3.out, E4.out, E5.out]
      exact gave HA3.out HB.out FIN.out HCC.out (by have h1 : w.heap.size + 1 < w2.heap.size := (Array.getElem?_eq_some_iff.1 QO.out).1; omega) _ _ _ _ _ _
end Go.Proofs.YtmmcpjmgindpkacDoor.MRunS
