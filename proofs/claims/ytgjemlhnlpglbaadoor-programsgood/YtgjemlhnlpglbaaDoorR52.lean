/-
  THE LAW 'barbicankeep.ProgramsGood', WALKED: the call returns true.
  Conditions: the raw things and the units' names lie there.
-/
import Derived.Test.YtgjemlhnlpglbaaDoorR51
namespace Go.Proofs.YtgjemlhnlpglbaaDoor.PGoodRun
open Go.RowKit NPlain NSense PPlain PRaw PNumber PExprBase PStmtBase PWhileBase PProgBase PProgG PGather PGoodPlain PGoodMem PGood PGoodWalk Trees
open Go.Proofs.YtgjemlhnlpglbaaDoor.Bytes (cell_of_heap)

theorem infoStr2 : (Tryd.prog.info? 9).map (fun i => (i.zero, i.size, i.bytes)) = some (some (.string ⟨#[]⟩), 1, 16) := by kernel_rfl

set_option maxRecDepth 100000 in
set_option maxHeartbeats 4000000 in
theorem walk (w : World) (la : Option Addr) (ln lc : Nat) (hl : Raws w la ln lc) (hn : Names w) (z : Int) (hz : int64 z) :
    Calls Tryd.prog 3 #[.slice la ln lc, .int .i64 z] w fun e w' => e = .returned (.bool true) ∧ Below w.heap.size w w' := by
  have kp : ∀ (n m : Int) (W : World), _ := picked
  have KP : Hid _ := kp
  have kg : True → _ := fun _ => made w la ln lc hl hn
  have KG : Hid _ := kg
  have HZ : Hid (int64 z) := hz
  obtain ⟨i, hi⟩ : ∃ i : Nat, pk z 6 = i := ⟨(pk z 6).toNat, by have := pk_bd z 6 (by decide); omega⟩
  have hi6 : i < 6 := by have := pk_bd z 6 (by decide); omega
  have HI6 : Hid (i < 6) := hi6
  have HIE : Hid (pk z 6 = (i : Int)) := hi
  clear kp kg hl hn hz hi hi6
  go_enter Tryd.func3, Tryd.ntmps3
  go_upto_region 2 with (go_at_call 6; refine (KG.out ⟨⟩).mono ?_; rintro e W1 ⟨g, m, cap, X, rfl, hb1, hg, hbf, hA, hF⟩; have HB1 : Hid (Below w.heap.size w W1) := hb1; have HGB : Hid (w.heap.size ≤ g ∧ w.heap.size ≤ (X 0).bf) := ⟨hg, hbf⟩; have HA1 : Hid (PAt W1 g (m + 1) X (X 0)) := hA; have HF : Hid (PFix g (m + 1) (m + 1) X) := hF; clear hb1 hg hbf hA hF)
  have hm3 := HF.out.pos
  have hn0 : ∀ k, k < 3 → (X 0).n k ≤ 2000 := fun k hk => by have := (HF.out.ok 0 (by omega) k hk).2.2; omega
  have HM3 : Hid (m + 1 ≤ 3) := hm3.2
  have k1 : True → Calls Tryd.prog 7 #[.slice (some ⟨g, 0, none⟩) (m + 1) cap] W1 fun e w' => e = .returned (.int .i64 0) ∧ Below W1.heap.size W1 w' := fun _ => by
    have hu := row_of HA1.out HF.out ⟨rfl, rfl, rfl⟩ hn0
    have hc := NCheck.check W1 (m + 1) cap (some ⟨g, 0, none⟩) _ (by have := HM3.out; unfold maxLen; omega) hu
    have hf : programFault (m + 1) (putU (unitD 0 (X 0)) X) = 0 := by
      rw [putU_same]
      exact program_fault ⟨HM3.out, fun i _ => unit_hd i (X i)⟩ fun i hi => body_ok (HF.out.ok i hi)
    rwa [hf] at hc
  have K1 : Hid _ := k1
  clear hm3 hn0 k1
  go_upto_region 4 with (go_at_call 7; refine (K1.out ⟨⟩).mono ?_; rintro e W2 ⟨rfl, hb2⟩; have HB2 : Hid (Below W1.heap.size W1 W2) := hb2; clear hb2)
  go_cut [6] from 10 to 83 (fun s6 wx => OddsAt W2 s6 wx)
  case first =>
    go_wp2_with fail
    go_meet
    exact odds_at rfl
  case rest =>
  revert wc
  intro W3 hcut
  obtain ⟨hb3, bo, b1, b2, rfl, hgo, hg1, hg2⟩ := hcut
  have HB3 : Hid (Below W2.heap.size W2 W3) := hb3
  have GO : Hid _ := hgo
  have G1 : Hid _ := hg1
  have G2 : Hid _ := hg2
  clear hb3 hgo hg1 hg2
  go_upto_region 5 with fail
  go_cut [7] from 10 to 83 (fun s7 wx => Below W3.heap.size W3 wx ∧ ∃ bE, s7 = .slice (some ⟨bE, 0, none⟩) 6 6 ∧ wx.heap[bE]? = some (.cells errC 25))
  case first =>
    go_wp2_with fail
    go_meet
    exact ⟨below_a W3 _, _, rfl, got1 W3 _⟩
  case rest =>
  revert wc
  intro W6 hcut
  obtain ⟨hb6, bE, rfl, hgE⟩ := hcut
  have HB6 : Hid (Below W3.heap.size W3 W6) := hb6
  have GE : Hid _ := hgE
  have hpk := fun W => KP.out z 6 W HZ.out (by decide) (by decide)
  rw [HIE.out] at hpk
  have HPK : Hid _ := hpk
  have hA6 : PAt W6 g (m + 1) X (X 0) := by
    have h16 := HB2.out.trans ((HB3.out.trans (HB6.out.mono HB3.out.size)).mono HB2.out.size)
    exact HA1.out.below HF.out.in_ h16
  have HA6 : Hid _ := hA6
  have hw6 : Below w.heap.size w W6 := by
    have h16 := HB2.out.trans ((HB3.out.trans (HB6.out.mono HB3.out.size)).mono HB2.out.size)
    exact HB1.out.trans (h16.mono HB1.out.size)
  have HW6 : Hid _ := hw6
  clear hb6 hgE hpk hA6 hw6
  go_upto_region 7 with (go_at_call 8; refine (HPK.out _).mono ?_; rintro e w5 ⟨rfl, hw5⟩; rw [hw5]; clear hw5 w5)
  obtain ⟨nd, hnd⟩ : ∃ nd, nd = oddN i b1 b2 := ⟨_, rfl⟩
  obtain ⟨xk, xn, xof, xs, xao, xl, xc⟩ := nd
  obtain ⟨bf, ebf⟩ : ∃ bf, bf = (X 0).bf := ⟨_, rfl⟩
  obtain ⟨ao0, ea0⟩ : ∃ ao0, ao0 = (X 0).ao 0 := ⟨_, rfl⟩
  obtain ⟨n0, en0⟩ : ∃ n0, n0 = (X 0).n 0 := ⟨_, rfl⟩
  obtain ⟨c0, ec0⟩ : ∃ c0, c0 = (X 0).c 0 := ⟨_, rfl⟩
  obtain ⟨L0, eL0⟩ : ∃ L0, L0 = (X 0).L 0 := ⟨_, rfl⟩
  have EQS : Hid (bf = (X 0).bf ∧ ao0 = (X 0).ao 0 ∧ n0 = (X 0).n 0 ∧ c0 = (X 0).c 0 ∧ L0 = (X 0).L 0) := ⟨ebf, ea0, en0, ec0, eL0⟩
  have NDE : Hid ((⟨xk, xn, xof, xs, xao, xl, xc⟩ : ENode) = oddN i b1 b2) := hnd
  have cg : ∀ W, Below W6.heap.size W6 W → W.cell? ⟨g, 3, none⟩ = some (.slice (some ⟨bf, 0, none⟩) 3 3) := fun W hb => by
    have h := (HA6.out.below HF.out.in_ hb).row 0 (by omega) 3 (by omega)
    rw [ebf]
    exact h
  have CG : Hid _ := cg
  have cb : ∀ W, Below W6.heap.size W6 W → W.cell? ⟨bf, 3, none⟩ = some (.slice ao0 n0 c0) ∧ W.frozen? ⟨bf, 3, none⟩ = false := fun W hb => by
    have h := (HA6.out.below HF.out.in_ hb).first.2.2.1
    rw [ebf, ea0, en0, ec0]
    exact ⟨cell_of_heap h rfl, Lib.frozen_of_heap h 3⟩
  have CB : Hid (∀ W, Below W6.heap.size W6 W → W.cell? ⟨bf, 3, none⟩ = some (.slice ao0 n0 c0)) := fun W hb => (cb W hb).1
  have CBF : Hid _ := cb
  have co : ∀ W, Below W6.heap.size W6 W → W.cell? ⟨bo, i * 5, none⟩ = some (.int .i64 xk) ∧ W.cell? ⟨bo, i * 5 + 1, none⟩ = some (.int .i64 xn) ∧ W.cell? ⟨bo, i * 5 + 2, none⟩ = some (.string xof) ∧ W.cell? ⟨bo, i * 5 + 3, none⟩ = some (.string xs) ∧ W.cell? ⟨bo, i * 5 + 4, none⟩ = some (.slice xao xl xc) := fun W hb => by
    have h := kept hb (kept HB6.out GO.out)
    have c : ∀ j, j < 5 → W.cell? ⟨bo, i * 5 + j, none⟩ = (five ⟨xk, xn, xof, xs, xao, xl, xc⟩)[j]? := fun j hj => by
      rw [hnd, ← odd_cells b1 b2 i HI6.out j hj]
      simp [World.cell?, h]
    exact ⟨c 0 (by omega), c 1 (by omega), c 2 (by omega), c 3 (by omega), c 4 (by omega)⟩
  have CO : Hid _ := co
  have sb : ∀ W, Below W6.heap.size W6 W → SRow W 12 ao0 n0 L0 := fun W hb => by
    rw [ea0, en0, eL0]
    exact (HA6.out.below HF.out.in_ hb).first.2.2.2.2.2 0 (by omega) W fun _ _ _ => rfl
  have SB : Hid _ := sb
  have NB : Hid (n0 ≤ 1000) := by rw [en0]; exact (HF.out.ok 0 (by have := HF.out.pos; omega) 0 (by omega)).2.2
  have HI : Hid ((i : Int) < 6) := (by have := HI6.out; omega : (i : Int) < 6)
  clear hnd ebf ea0 en0 ec0 eL0 cg cb co sb
  go_cut [8] from 10 to 83 (fun s8 wx => s8 = .int .i64 i ∧ Turned w g m b1 b2 bE i X wx)
  case first =>
    refine region_gathered (by kernel_rfl) 31 21 1 (by kernel_rfl) (by simp) (G7 W6.heap.size g m cap bf bo i xk xn xof xs xao xl xc ao0 n0 c0 L0) (G7_below W6.heap.size g m cap bf bo i xk xn xof xs xao xl xc ao0 n0 c0 L0) ?_ ?_
    · refine ⟨?_, ?_, ?_, ?_, ?_, ?_, ?_, ?_, ?_, ?_, ?_, ?_, ?_, ?_, ?_, ?_, ?_, ?_, ?_, ?_, ?_, trivial⟩
      · intro a W K hB hk hK
        have e5 : a.tmps[5]?.getD undef = .slice (some ⟨g, 0, none⟩) (m + 1) cap := by rw [hB.2.2.2 5 (by omega)]; rfl
        go_simp
        exact hK _ _ rfl (Below.refl _ _)
      · intro a W K hB hk hK
        have g31 : a.tmps[31]?.getD undef = .slice (some ⟨g, 0, none⟩) (m + 1) cap := hk 0 (by kernel_rfl)
        go_simp
        exact hK _ _ rfl (Below.refl _ _)
      · intro a W K hB hk hK
        have g32 : a.tmps[32]?.getD undef = .pointer (some ⟨g, 0, none⟩) := hk 1 (by kernel_rfl)
        go_simp
        exact hK _ _ rfl (Below.refl _ _)
      · intro a W K hB hk hK
        have g33 : a.tmps[33]?.getD undef = .pointer (some ⟨g, 3, none⟩) := hk 2 (by kernel_rfl)
        have c := CG.out W hB.1
        go_simp
        exact hK _ _ rfl (Below.refl _ _)
      · intro a W K hB hk hK
        have e6 : a.tmps[6]?.getD undef = .slice (some ⟨bo, 0, none⟩) 6 6 := by rw [hB.2.2.2 6 (by omega)]; rfl
        go_simp
        exact hK _ _ rfl (Below.refl _ _)
      · intro a W K hB hk hK
        have e8 : a.tmps[8]?.getD undef = .int .i64 i := by rw [hB.2.2.2 8 (by omega)]; rfl
        go_simp
        exact hK _ _ rfl (Below.refl _ _)
      · intro a W K hB hk hK
        have g35 : a.tmps[35]?.getD undef = .slice (some ⟨bo, 0, none⟩) 6 6 := hk 4 (by kernel_rfl)
        have g36 : a.tmps[36]?.getD undef = .int .i64 i := hk 5 (by kernel_rfl)
        have hi := HI.out
        go_simp
        exact hK _ _ rfl (Below.refl _ _)
      · intro a W K hB hk hK
        have g37 : a.tmps[37]?.getD undef = .pointer (some ⟨bo, i * 5, none⟩) := hk 6 (by kernel_rfl)
        obtain ⟨c0, c1, c2, c3, c4⟩ := CO.out W hB.1
        go_simp
        exact hK _ _ rfl (Below.refl _ _)
      · intro a W K hB hk hK
        have g38 : a.tmps[38]?.getD undef = .agg #[.int .i64 xk, .int .i64 xn, .string xof, .string xs, .slice xao xl xc] := hk 7 (by kernel_rfl)
        have hz := hB.1.size
        go_simp
        exact hK _ _ ⟨W.heap.size, rfl, hz, got1 W _⟩ (below_a W _)
      · intro a W K hB hk hK
        obtain ⟨be, e, h1, h2⟩ : G7 W6.heap.size g m cap bf bo i xk xn xof xs xao xl xc ao0 n0 c0 L0 8 (a.tmps[39]?.getD undef) W := hk 8 (by kernel_rfl)
        go_simp
        exact hK _ _ ⟨be, rfl, h1, h2⟩ (Below.refl _ _)
      · intro a W K hB hk hK
        obtain ⟨be, e, h1, h2⟩ : G7 W6.heap.size g m cap bf bo i xk xn xof xs xao xl xc ao0 n0 c0 L0 9 (a.tmps[40]?.getD undef) W := hk 9 (by kernel_rfl)
        go_simp
        exact hK _ _ ⟨be, W.heap.size, rfl, h1, kept (below_a W _) h2, got1 W _⟩ (below_a W _)
      · intro a W K hB hk hK
        have e5 : a.tmps[5]?.getD undef = .slice (some ⟨g, 0, none⟩) (m + 1) cap := by rw [hB.2.2.2 5 (by omega)]; rfl
        go_simp
        exact hK _ _ rfl (Below.refl _ _)
      · intro a W K hB hk hK
        have g42 : a.tmps[42]?.getD undef = .slice (some ⟨g, 0, none⟩) (m + 1) cap := hk 11 (by kernel_rfl)
        go_simp
        exact hK _ _ rfl (Below.refl _ _)
      · intro a W K hB hk hK
        have g43 : a.tmps[43]?.getD undef = .pointer (some ⟨g, 0, none⟩) := hk 12 (by kernel_rfl)
        go_simp
        exact hK _ _ rfl (Below.refl _ _)
      · intro a W K hB hk hK
        have g44 : a.tmps[44]?.getD undef = .pointer (some ⟨g, 3, none⟩) := hk 13 (by kernel_rfl)
        have c := CG.out W hB.1
        go_simp
        exact hK _ _ rfl (Below.refl _ _)
      · intro a W K hB hk hK
        have g45 : a.tmps[45]?.getD undef = .slice (some ⟨bf, 0, none⟩) 3 3 := hk 14 (by kernel_rfl)
        go_simp
        exact hK _ _ rfl (Below.refl _ _)
      · intro a W K hB hk hK
        have g46 : a.tmps[46]?.getD undef = .pointer (some ⟨bf, 0, none⟩) := hk 15 (by kernel_rfl)
        go_simp
        exact hK _ _ rfl (Below.refl _ _)
      · intro a W K hB hk hK
        have g47 : a.tmps[47]?.getD undef = .pointer (some ⟨bf, 3, none⟩) := hk 16 (by kernel_rfl)
        have c := CB.out W hB.1
        go_simp
        exact hK _ _ rfl (Below.refl _ _)
      · intro a W K hB hk hK
        obtain ⟨be, bs, e, h1, h2, h3⟩ : G7 W6.heap.size g m cap bf bo i xk xn xof xs xao xl xc ao0 n0 c0 L0 10 (a.tmps[41]?.getD undef) W := hk 10 (by kernel_rfl)
        have g48 : a.tmps[48]?.getD undef = .slice ao0 n0 c0 := hk 17 (by kernel_rfl)
        exact app_step e g48 h1 h2 h3 (SB.out W hB.1) NB.out hB.1 hK
      · intro a W K hB hk hK
        have g34 : a.tmps[34]?.getD undef = .slice (some ⟨bf, 0, none⟩) 3 3 := hk 3 (by kernel_rfl)
        go_simp
        exact hK _ _ rfl (Below.refl _ _)
      · intro a W K hB hk hK
        have g50 : a.tmps[50]?.getD undef = .pointer (some ⟨bf, 0, none⟩) := hk 19 (by kernel_rfl)
        go_simp
        exact hK _ _ rfl (Below.refl _ _)
    · intro u w2 hb hg
      have e51 : u 51 = .pointer (some ⟨bf, 3, none⟩) := hg 20 (by decide)
      obtain ⟨be, gb, cb', cs, fr, e49, hbe, hgbe, hggb, hcs⟩ : G7 W6.heap.size g m cap bf bo i xk xn xof xs xao xl xc ao0 n0 c0 L0 18 (u 49) w2 := hg 18 (by decide)
      obtain ⟨c, fz⟩ := CBF.out w2 hb
      have htn : Turned w g m b1 b2 bE i X (w2.setCell ⟨bf, 3, none⟩ (.slice (some ⟨gb, 0, none⟩) (n0 + 1) cb')) := by
        obtain ⟨q1, q2, q3, q4, q5⟩ := EQS.out
        rw [q1, q3]
        rw [q3, q5] at hcs
        have zW := HW6.out.size
        refine turned (fr := fr) HI6.out (HA6.out.below HF.out.in_ hb) HF.out (HW6.out.trans (hb.mono zW)) HGB.out.2 (kept hb GE.out) (kept hb (kept HB6.out G1.out)) (kept hb (kept HB6.out G2.out)) (by rw [← NDE.out]; exact hgbe) hggb hcs
      have HTN : Hid _ := htn
      have E51 := e51
      have E49 := e49
      clear hg hb hbe hgbe hggb hcs htn e51 e49
      simp only [mkL, Nat.reduceLeDiff, Nat.reduceLT, Nat.reduceAdd, and_true, and_false, if_true, if_false, List.drop_succ_cons, List.drop_zero]
      go_wp2_with fail
      go_meet
      exact ⟨rfl, HTN.out⟩
  case rest =>
  revert wc
  intro W7 hcut
  obtain ⟨rfl, hT⟩ := hcut
  have HT : Hid (Turned w g m b1 b2 bE i X W7) := hT
  obtain ⟨er, her⟩ : ∃ er, er = errOf i := ⟨_, rfl⟩
  have HER : Hid (er = errOf i) := her
  have k2 : True → Calls Tryd.prog 7 #[.slice (some ⟨g, 0, none⟩) (m + 1) cap] W7 fun e w' => e = .returned (.int .i64 er) ∧ Below W7.heap.size W7 w' := fun _ => by
    obtain ⟨_, _, ao, c, be, e0, hP7⟩ := hT
    have hu := row_of hP7 HF.out ⟨rfl, rfl, rfl⟩ (turned_n HF.out)
    have hc := NCheck.check W7 (m + 1) cap (some ⟨g, 0, none⟩) _ (by have := HM3.out; unfold maxLen; omega) hu
    rw [odd_program ⟨by omega, HM3.out⟩ HF.out.ok i b1 b2 be c 0 e0 ao HI6.out, ← her] at hc
    exact hc
  have K2 : Hid _ := k2
  clear k2 her hT
  go_upto_region 9 with (go_at_call 7; refine (K2.out ⟨⟩).mono ?_; rintro e W8 ⟨rfl, hb8⟩; have HB8 : Hid (Below W7.heap.size W7 W8) := hb8; clear hb8)
  have ht8 : Turned w g m b1 b2 bE i X W8 := HT.out.below HF.out HB8.out
  have HT8 : Hid _ := ht8
  obtain ⟨bf9, ebf9⟩ : ∃ bf9, bf9 = (X 0).bf := ⟨_, rfl⟩
  have EBF9 : Hid (bf9 = (X 0).bf) := ebf9
  obtain ⟨c3, cb3, fb3⟩ : W8.cell? ⟨g, 3, none⟩ = some (.slice (some ⟨bf9, 0, none⟩) 3 3) ∧ (∃ v, W8.cell? ⟨bf9, 3, none⟩ = some v) ∧ W8.frozen? ⟨bf9, 3, none⟩ = false := by
    obtain ⟨_, _, ao, c, be, e0, hP8⟩ := ht8
    have h := hP8.first.2.2.1
    rw [ebf9]
    exact ⟨hP8.row 0 (by omega) 3 (by omega), ⟨_, cell_of_heap h rfl⟩, Lib.frozen_of_heap h 3⟩
  obtain ⟨vb, cb3⟩ := cb3
  clear ht8 ebf9
  go_cut [8] from 10 to 83 (fun s8 wx => s8 = .int .i64 i ∧ Bare w g m bE X wx)
  case first =>
    go_wp2_with fail
    go_meet
    rw [EBF9.out]
    exact ⟨rfl, bare HT8.out HF.out HGB.out.2⟩
  case rest =>
  revert wc
  intro W9 hcut
  obtain ⟨rfl, hB9⟩ := hcut
  have HB9 : Hid (Bare w g m bE X W9) := hB9
  obtain ⟨bv, ebv⟩ : ∃ bv, bv = (X 0).bv := ⟨_, rfl⟩
  obtain ⟨c9, f9, hold⟩ : W9.cell? ⟨g, 1, none⟩ = some (.slice (some ⟨bv, 0, none⟩) 2 2) ∧ (∀ W, Below W9.heap.size W9 W → W.cell? ⟨g, 1, none⟩ = some (.slice (some ⟨bv, 0, none⟩) 2 2) ∧ W.frozen? ⟨g, 1, none⟩ = false) ∧ W9.heap[bv]? = some (.cells vcells 9) := by
    obtain ⟨_, _, L, e, hP9⟩ := hB9
    rw [ebv]
    exact ⟨hP9.row 0 (by omega) 1 (by omega), fun W hb => ⟨(hP9.below HF.out.in_ hb).row 0 (by omega) 1 (by omega), by
      obtain ⟨cs, hg⟩ := (hP9.below HF.out.in_ hb).gt
      exact Lib.frozen_of_heap hg 1⟩, hP9.first.1⟩
  obtain ⟨i0, gi, gz0, gz1, gz2⟩ := info_parts infoStr2
  have I0 : Hid _ := And.intro gi (And.intro gz0 (And.intro gz1 gz2))
  have OLD : Hid (∀ b, (some ⟨bv, 0, none⟩ : Option Addr) = some b → ∀ (j : Nat) (u : Value), ([.string ⟨#[120]⟩, .string ⟨#[121]⟩] : List Value)[j]? = some u → (W9.alloc (.cells #[.string ⟨#[97, 114, 114]⟩] 9)).cell? (b.add j) = some u) := fun b eb j u hu => by
    injection eb with eb
    subst eb
    rw [add_off, Nat.zero_add]
    refine cell_of_heap (got_old _ _ hold) ?_
    simpa [vcells] using hu
  have NEW : Hid (∀ (j : Nat) (u : Value), ([.string ⟨#[97, 114, 114]⟩] : List Value)[j]? = some u → (W9.alloc (.cells #[.string ⟨#[97, 114, 114]⟩] 9)).cell? ((⟨W9.heap.size, 0, none⟩ : Addr).add j) = some u) := fun j u hu => by
    rw [add_off, Nat.zero_add]
    refine cell_of_heap (got1 W9 _) ?_
    simpa using hu
  have ONE : Hid (∀ u ∈ ([.string ⟨#[97, 114, 114]⟩] : List Value), u.oneCell' = true) := by simp [Hid, Value.oneCell']
  have FIN : Hid (∀ (v' : Value) (w4 : World), w4.ownsRow (W9.alloc (.cells #[.string ⟨#[97, 114, 114]⟩] 9)).heap.size 9 1 v' (2 + 1) ([.string ⟨#[120]⟩, .string ⟨#[121]⟩] ++ [.string ⟨#[97, 114, 114]⟩]) → World.grownBy (W9.alloc (.cells #[.string ⟨#[97, 114, 114]⟩] 9)) w4 none →
      ∃ gv cv, v' = .slice (some ⟨gv, 0, none⟩) 3 cv ∧ (w4.cell? ⟨g, 1, none⟩ = some (.slice (some ⟨bv, 0, none⟩) 2 2) ∧ w4.frozen? ⟨g, 1, none⟩ = false) ∧ Last w g m bE X (w4.setCell ⟨g, 1, none⟩ (.slice (some ⟨gv, 0, none⟩) 3 cv))) := fun v' w4 ho hg => by
    have hbel : Below W9.heap.size W9 w4 := (below_a W9 _).trans ⟨hg.os, hg.tape, hg.output, hg.size, fun k hk => hg.block k (by simp; omega) (by simp)⟩
    rcases ho.2 with ⟨_, h0⟩ | ⟨gv, cv, cur, hv, hB, hgv, _⟩
    · omega
    · refine ⟨gv, cv, hv, f9 w4 hbel, last HB9.out HF.out hbel HGB.out.1 hgv fun j u hu => ?_⟩
      have := ho.cells (g := gv) (by rw [hv]; rfl) j u hu
      rw [add_off, Nat.zero_add] at this
      simpa [World.cell?, hgv] using this
  clear hB9 ebv f9 hold gi gz0 gz1 gz2
  go_upto_region 10 with fail
  go_cut [8] from 10 to 83 (fun s8 wx => s8 = .int .i64 i ∧ Last w g m bE X wx)
  case first =>
    go_wp2_with (at_builtin; refine wpList_append_grows _ rfl _ _ 35 rfl 9 i0 (.string ⟨#[]⟩) 1 16 Tryd.underlying35 I0.out.1 I0.out.2.1 I0.out.2.2.1 I0.out.2.2.2 rfl (by decide) (some ⟨bv, 0, none⟩) 2 2 [.string ⟨#[120]⟩, .string ⟨#[121]⟩] rfl (fun h => by cases h) rfl OLD.out ⟨W9.heap.size, 0, none⟩ 1 1 [.string ⟨#[97, 114, 114]⟩] rfl rfl NEW.out ONE.out (by decide) (by unfold maxLen; decide) (by decide) ?_; intro v' w4 ho' hg'; obtain ⟨gv, cv, rfl, ⟨c4, f4⟩, hlast⟩ := FIN.out v' w4 ho' hg'; have HL : Hid _ := hlast; clear ho' hg' hlast)
    go_meet
    exact ⟨rfl, HL.out⟩
  case rest =>
  revert wc
  intro W10 hcut
  obtain ⟨rfl, hL⟩ := hcut
  have HL : Hid (Last w g m bE X W10) := hL
  have k3 : True → Calls Tryd.prog 7 #[.slice (some ⟨g, 0, none⟩) (m + 1) cap] W10 fun e w' => e = .returned (.int .i64 6) ∧ Below W10.heap.size W10 w' := fun _ => by
    obtain ⟨_, _, va, vc, L, e, hu⟩ := hL
    have hc := NCheck.check W10 (m + 1) cap (some ⟨g, 0, none⟩) _ (by have := HM3.out; unfold maxLen; omega) hu
    rw [twice_program ⟨by omega, HM3.out⟩ HF.out.ok] at hc
    exact hc
  have K3 : Hid _ := k3
  have ce : W10.cell? ⟨bE, i, none⟩ = some (.int .i64 er) := by
    rw [HER.out]
    exact cell_of_heap hL.2.1 (err_cell i HI6.out)
  have hi6 : (i : Int) < 6 := by have := HI6.out; omega
  clear k3 hL
  go_wp2_with (go_at_call 7; refine (K3.out ⟨⟩).mono ?_; rintro e W11 ⟨rfl, hb11⟩; have HB11 : Hid (Below W10.heap.size W10 W11) := hb11; clear hb11)
  go_ret
  exact ⟨rfl, HL.out.1.trans (HB11.out.mono HL.out.1.size)⟩
end Go.Proofs.YtgjemlhnlpglbaaDoor.PGoodRun
