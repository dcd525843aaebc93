/-
  WHAT barbicankeep.Program GIVES: up to three units, where they lie; nothing is refused of them.
  Conditions: the raw things and the units' names lie there; what Stmts gives.
-/
import Derived.Test.YtgjemlhnlpglbaaDoorR21
import Derived.Test.YtgjemlhnlpglbaaDoorR23
import Derived.Deep.CutRange
import Derived.Deep.CutBlock
import Derived.Deep.AppendLies
namespace Go.Proofs.YtgjemlhnlpglbaaDoor.PProg
open Go.RowKit NPlain NSense PPlain PRaw PNumber PExprBase PStmtBase PWhileBase PProgBase PProgG PGather Trees

/-- the part of the raw things that is a unit's: its bounds -/
def G6 (la : Option Addr) (ln lc k many A B qa qb : Nat) : Nat → Value → World → Prop
  | 0, v, _ => v = .slice la ln lc
  | 1, v, _ => v = .int .i64 k
  | 2, v, _ => v = .slice la ln lc
  | 3, v, _ => v = .int .i64 ln
  | 4, v, _ => v = .int .i64 A
  | 5, v, _ => v = .int .i64 many
  | 6, v, _ => v = .int .i64 qa
  | 7, v, _ => v = .int .i64 k
  | 8, v, _ => v = .int .i64 ((k : Int) + 1)
  | 9, v, _ => v = .slice la ln lc
  | 10, v, _ => v = .int .i64 ln
  | 11, v, _ => v = .int .i64 B
  | 12, v, _ => v = .int .i64 many
  | 13, v, _ => v = .int .i64 qb
  | 14, v, _ => v = .slice (from_ la lc qa) (qb - qa) (lc - qa)
  | _, _, _ => True
theorem G6_below (la : Option Addr) (ln lc k many A B qa qb : Nat) : ∀ j v w w', G6 la ln lc k many A B qa qb j v w → Below w.heap.size w w' → G6 la ln lc k many A B qa qb j v w'
  | 0, _, _, _, h, _ => h
  | 1, _, _, _, h, _ => h
  | 2, _, _, _, h, _ => h
  | 3, _, _, _, h, _ => h
  | 4, _, _, _, h, _ => h
  | 5, _, _, _, h, _ => h
  | 6, _, _, _, h, _ => h
  | 7, _, _, _, h, _ => h
  | 8, _, _, _, h, _ => h
  | 9, _, _, _, h, _ => h
  | 10, _, _, _, h, _ => h
  | 11, _, _, _, h, _ => h
  | 12, _, _, _, h, _ => h
  | 13, _, _, _, h, _ => h
  | 14, _, _, _, h, _ => h
  | _ + 15, _, _, _, _, _ => trivial

/-- at a round's head -/
def PRel (w : World) (many : Nat) (v n : Value) (W : World) : Prop := ∃ (k : Nat) (X : Nat → ULay), n = .int .i64 k ∧ k ≤ many ∧ Below w.heap.size w W ∧ PLies w.heap.size W v k many X

theorem infoUnit : (Tryd.prog.info? 41).map (fun i => (i.zero, i.size, i.bytes)) = some (some (.agg #[.string ⟨#[]⟩, .slice none 0 0, .slice none 0 0, .slice none 0 0]), 4, 88) := by kernel_rfl

theorem four_of {w : World} {bs : Nat} {v0 v1 v2 v3 : Value} {t : TypeId} (h : w.heap[bs]? = some (.cells #[v0, v1, v2, v3] t)) : ∀ (j : Nat) (v : Value), ([v0, v1, v2, v3] : List Value)[j]? = some v → w.cell? ((⟨bs, 0, none⟩ : Addr).add j) = some v := by
  intro j v hj
  rw [add_off, Nat.zero_add]
  refine Go.Proofs.YtgjemlhnlpglbaaDoor.Bytes.cell_of_heap h ?_
  simpa using hj

theorem quo_eq (A m : Nat) (_ : 1 ≤ m) : Int.tdiv (A : Int) (m : Int) = ((A / m : Nat) : Int) := by rw [Int.tdiv_eq_ediv_of_nonneg (by omega)]; simp

set_option maxRecDepth 100000 in
set_option maxHeartbeats 4000000 in
theorem program (ks : ∀ many, 1 ≤ many ∧ many ≤ 3 → SC 12 many) (w : World) (la : Option Addr) (ln lc : Nat) (hl : Raws w la ln lc) (hn : Names w) :
    Calls Tryd.prog 6 #[.slice la ln lc] w fun e w' => ProgOut w ln e w' := by
  have kp : ∀ (n m : Int) (W : World), _ := picked
  have KP : Hid _ := kp
  have HR : Hid (Raws w la ln lc ∧ Names w) := ⟨hl, hn⟩
  have hlm := hl.2.1
  have HLN : Hid (ln ≤ 140737488355328) := hlm
  have hlI : (ln : Int) ≤ 140737488355328 := by omega
  obtain ⟨many, hmany⟩ : ∃ many, many = 1 + ln % 3 := ⟨_, rfl⟩
  have hm1 : 1 ≤ many ∧ many ≤ 3 := by omega
  have hpk : (1 : Int) + pk (ln : Int) 3 = (many : Int) := by unfold pk; rw [if_neg (by omega), hmany]; omega
  have HM : Hid (many = 1 + ln % 3) := hmany
  have HM1 : Hid (1 ≤ many ∧ many ≤ 3) := hm1
  have KSC : Hid (SC 12 many) := ks many hm1
  have h0 : PRel w many (.slice none 0 0) (.int .i64 0) w := ⟨0, fun _ => ⟨0, 0, 0, 0, 0, 0, 0, fun _ => none, fun _ => 0, fun _ => 0, fun _ _ => setY (lf 1 0 .empty) 0, fun _ => 0, fun _ => 0⟩, rfl, Nat.zero_le _, Below.refl _ _, plies_nil _ _ _ _⟩
  have H0 : Hid _ := h0
  have hb3 := pk_bd (ln : Int) 3 (by decide)
  have hmI : (many : Int) ≤ 3 := by omega
  have hmI1 : (1 : Int) ≤ many := by omega
  clear kp hl hn ks hmany hm1 h0 hlm
  go_enter Tryd.func6, Tryd.ntmps6
  go_wp2_with (go_at_call 8; refine (KP.out _ _ _ (by have := HLN.out; unfold int64; omega) (by decide) (by decide)).mono ?_; rintro e w1 ⟨rfl, hw1⟩; rw [hw1]; clear hw1 w1)
  go_loopw [4, 13] (fun v n wr => Hid (PRel w many v n wr)) (fun _ n _ => 3 - (intOf n).toNat)
  case atStart => exact H0
  case round =>
    clear H0
    revert wr
    intro wr hrel
    obtain ⟨k, X, rfl, hk, hB, hP⟩ := hrel.out
    by_cases hkm : k < many
    case neg =>
      have hb1 : decide (k < many) = false := decide_eq_false hkm
      have hb2 : decide ((k : Int) < (many : Int)) = false := decide_eq_false (by omega)
      obtain rfl : k = many := by omega
      obtain ⟨ao, cap, ev, _⟩ := plies_row hP
      have HP : Hid (PLies w.heap.size wr u4 k k X) := hP
      have HB : Hid (Below w.heap.size w wr) := hB
      have EV : Hid (u4 = .slice ao k cap) := ev
      clear hP hB ev hrel hkm hk
      go_wp2
      go_ret
      refine ⟨HB.out, ao, cap, X, ?_⟩
      rw [← HM.out, ← EV.out]
      exact ⟨rfl, HP.out⟩
    have hb1 : decide (k < many) = true := decide_eq_true hkm
    have hb2 : decide ((k : Int) < (many : Int)) = true := decide_eq_true (by omega)
    have hm3 := HM1.out
    have hln := HLN.out
    have hlc := HR.out.1.1
    have HI3 : Hid ((k : Int) < 3) := (by omega : (k : Int) < 3)
    have hk2 : (k : Int) ≤ 2 := by omega
    have hk0 : (0 : Int) ≤ k := by omega
    have hq0 : ((many : Int) == 0) = false := beq_eq_false_iff_ne.2 (by omega)
    have hq1 : ((many : Int) == -1) = false := beq_eq_false_iff_ne.2 (by omega)
    obtain ⟨A, hA⟩ : ∃ A, A = k * ln := ⟨_, rfl⟩
    obtain ⟨B, hBd⟩ : ∃ B, B = (k + 1) * ln := ⟨_, rfl⟩
    have hA2 : A ≤ 2 * ln := by rw [hA]; exact Nat.mul_le_mul_right ln (by omega)
    have hBA : B = A + ln := by rw [hA, hBd, Nat.add_mul, Nat.one_mul]
    have hBm : B ≤ many * ln := by rw [hBd]; exact Nat.mul_le_mul_right ln (by omega)
    have hab : A / many ≤ B / many := Nat.div_le_div_right (by omega)
    have hbl : B / many ≤ ln := Nat.div_le_of_le_mul hBm
    have hAI : (k : Int) * (ln : Int) = (A : Int) := by rw [hA]; simp
    have hBI : ((k : Int) + 1) * (ln : Int) = (B : Int) := by rw [hBd]; simp
    have hQA : Int.tdiv (A : Int) (many : Int) = ((A / many : Nat) : Int) := quo_eq A many (by omega)
    have hQB : Int.tdiv (B : Int) (many : Int) = ((B / many : Nat) : Int) := quo_eq B many (by omega)
    have hQA3 : (A : Int) / (many : Int) = ((A / many : Nat) : Int) := by simp
    have hQB3 : (B : Int) / (many : Int) = ((B / many : Nat) : Int) := by simp
    generalize A / many = qa at *
    generalize B / many = qb at *
    have hmz : ¬ many = 0 := by omega
    have hQA2 : IntKind.i64.wrap ((A : Int) / (many : Int)) = (qa : Int) := by rw [hQA3, IntKind.wrap_i64]; omega
    have hQB2 : IntKind.i64.wrap ((B : Int) / (many : Int)) = (qb : Int) := by rw [hQB3, IntKind.wrap_i64]; omega
    have HWK : Hid (IntKind.i64.wrap ((k : Int) + 1) = (k : Int) + 1) := (by rw [IntKind.wrap_i64]; omega : IntKind.i64.wrap ((k : Int) + 1) = (k : Int) + 1)
    have HWK2 : Hid (IntKind.i64.wrap (2 + (k : Int)) = 2 + (k : Int)) := (by rw [IntKind.wrap_i64]; omega : IntKind.i64.wrap (2 + (k : Int)) = 2 + (k : Int))
    have HA : Hid ((k : Int) * (ln : Int) = (A : Int)) := hAI
    have HWA : Hid (IntKind.i64.wrap ((k : Int) * (ln : Int)) = (A : Int)) := (by rw [hAI, IntKind.wrap_i64]; omega : IntKind.i64.wrap ((k : Int) * (ln : Int)) = (A : Int))
    have HBB : Hid (((k : Int) + 1) * (ln : Int) = (B : Int)) := hBI
    have HWB : Hid (IntKind.i64.wrap (((k : Int) + 1) * (ln : Int)) = (B : Int)) := (by rw [hBI, IntKind.wrap_i64]; omega : IntKind.i64.wrap (((k : Int) + 1) * (ln : Int)) = (B : Int))
    have HQA : Hid _ := hQA
    have HQB : Hid _ := hQB
    have HQA2 : Hid _ := hQA2
    have HQB2 : Hid _ := hQB2
    have sm : ∀ W, _ := fun W => slice_mid W la ln lc qa qb (qa : Int) (qb : Int) rfl rfl hab (by omega)
    have SM : Hid _ := sm
    have hrp := Raws_part HR.out.1 qa (qb - qa) (by omega)
    have RP : Hid (Raws w (from_ la lc qa) (qb - qa) (lc - qa)) := hrp
    have HB : Hid (Below w.heap.size w wr) := hB
    have HP : Hid (PLies w.heap.size wr u4 k many X) := hP
    have HK : Hid (k < many ∧ k ≤ 2) := ⟨hkm, by omega⟩
    have hAI2 : (A : Int) ≤ 281474976710656 := by omega
    have hBI2 : (B : Int) ≤ 422212465065984 := by omega
    clear hB hP hk hkm hrel hm3 hln hlc hA hBd hA2 hBA hBm hab hbl hAI hBI hQA hQB hQA2 hQB2 hQA3 hQB3 sm hrp
    go_upto_region 6 with fail
    go_cut [6] from 16 to 72 (fun s6 wx => Below wr.heap.size wr wx ∧ ∃ lP nP cP, s6 = .slice lP nP cP ∧ Raws w lP nP cP)
    case first =>
      refine region_gathered (by kernel_rfl) 16 15 1 (by kernel_rfl) (by simp) (G6 la ln lc k many A B qa qb) (G6_below la ln lc k many A B qa qb) ?_ ?_
      · refine ⟨?_, ?_, ?_, ?_, ?_, ?_, ?_, ?_, ?_, ?_, ?_, ?_, ?_, ?_, ?_, trivial⟩
        · intro a W K hB hk hK
          have e0 : a.tmps[0]?.getD undef = .slice la ln lc := by rw [hB.2.2.2 0 (by omega)]; rfl
          go_simp
          exact hK _ _ rfl (Below.refl _ _)
        · intro a W K hB hk hK
          have e5 : a.tmps[5]?.getD undef = .int .i64 k := by rw [hB.2.2.2 5 (by omega)]; rfl
          go_simp
          exact hK _ _ rfl (Below.refl _ _)
        · intro a W K hB hk hK
          have e0 : a.tmps[0]?.getD undef = .slice la ln lc := by rw [hB.2.2.2 0 (by omega)]; rfl
          go_simp
          exact hK _ _ rfl (Below.refl _ _)
        · intro a W K hB hk hK
          have g : a.tmps[18]?.getD undef = .slice la ln lc := hk 2 (by kernel_rfl)
          go_simp
          exact hK _ _ rfl (Below.refl _ _)
        · intro a W K hB hk hK
          have g : a.tmps[17]?.getD undef = .int .i64 k := hk 1 (by kernel_rfl)
          have g2 : a.tmps[19]?.getD undef = .int .i64 ln := hk 3 (by kernel_rfl)
          go_simp
          exact hK _ _ (by first | rfl | (show Value.int _ _ = Value.int _ _; rw [HWA.out]) | (show Value.int _ _ = Value.int _ _; rw [HA.out])) (Below.refl _ _)
        · intro a W K hB hk hK
          have e3 : a.tmps[3]?.getD undef = .int .i64 many := by rw [hB.2.2.2 3 (by omega)]; rfl
          go_simp
          exact hK _ _ rfl (Below.refl _ _)
        · intro a W K hB hk hK
          have g : a.tmps[20]?.getD undef = .int .i64 A := hk 4 (by kernel_rfl)
          have g2 : a.tmps[21]?.getD undef = .int .i64 many := hk 5 (by kernel_rfl)
          go_simp
          exact hK _ _ (by first | rfl | (show Value.int _ _ = Value.int _ _; rw [HQA.out]) | (show Value.int _ _ = Value.int _ _; rw [HQA2.out])) (Below.refl _ _)
        · intro a W K hB hk hK
          have e5 : a.tmps[5]?.getD undef = .int .i64 k := by rw [hB.2.2.2 5 (by omega)]; rfl
          go_simp
          exact hK _ _ rfl (Below.refl _ _)
        · intro a W K hB hk hK
          have g : a.tmps[23]?.getD undef = .int .i64 k := hk 7 (by kernel_rfl)
          go_simp
          exact hK _ _ (by show Value.int _ _ = Value.int _ _; rw [HWK.out]) (Below.refl _ _)
        · intro a W K hB hk hK
          have e0 : a.tmps[0]?.getD undef = .slice la ln lc := by rw [hB.2.2.2 0 (by omega)]; rfl
          go_simp
          exact hK _ _ rfl (Below.refl _ _)
        · intro a W K hB hk hK
          have g : a.tmps[25]?.getD undef = .slice la ln lc := hk 9 (by kernel_rfl)
          go_simp
          exact hK _ _ rfl (Below.refl _ _)
        · intro a W K hB hk hK
          have g : a.tmps[24]?.getD undef = .int .i64 ((k : Int) + 1) := hk 8 (by kernel_rfl)
          have g2 : a.tmps[26]?.getD undef = .int .i64 ln := hk 10 (by kernel_rfl)
          go_simp
          exact hK _ _ (by first | rfl | (show Value.int _ _ = Value.int _ _; rw [HWB.out]) | (show Value.int _ _ = Value.int _ _; rw [HBB.out])) (Below.refl _ _)
        · intro a W K hB hk hK
          have e3 : a.tmps[3]?.getD undef = .int .i64 many := by rw [hB.2.2.2 3 (by omega)]; rfl
          go_simp
          exact hK _ _ rfl (Below.refl _ _)
        · intro a W K hB hk hK
          have g : a.tmps[27]?.getD undef = .int .i64 B := hk 11 (by kernel_rfl)
          have g2 : a.tmps[28]?.getD undef = .int .i64 many := hk 12 (by kernel_rfl)
          go_simp
          exact hK _ _ (by first | rfl | (show Value.int _ _ = Value.int _ _; rw [HQB.out]) | (show Value.int _ _ = Value.int _ _; rw [HQB2.out])) (Below.refl _ _)
        · intro a W K hB hk hK
          have g : a.tmps[16]?.getD undef = .slice la ln lc := hk 0 (by kernel_rfl)
          have g2 : a.tmps[22]?.getD undef = .int .i64 qa := hk 6 (by kernel_rfl)
          have g3 : a.tmps[29]?.getD undef = .int .i64 qb := hk 13 (by kernel_rfl)
          have S1 := SM.out
          go_simp
          exact hK _ _ rfl (Below.refl _ _)
      · intro u w2 hb hg
        have g : u 30 = .slice (from_ la lc qa) (qb - qa) (lc - qa) := hg 14 (by decide)
        have E : Hid _ := g
        have HW2 : Hid (Below wr.heap.size wr w2) := hb
        clear hg hb g
        simp only [mkL, Nat.reduceLeDiff, Nat.reduceLT, Nat.reduceAdd, and_true, and_false, if_true, if_false, List.drop_succ_cons, List.drop_zero]
        go_wp2_with fail
        go_meet
        exact ⟨HW2.out, _, _, _, E.out, RP.out⟩
    case rest =>
    revert wc
    intro wP hcut
    obtain ⟨hbP, lP, nP, cP, rfl, hRP⟩ := hcut
    have HBP : Hid (Below wr.heap.size wr wP) := hbP
    have RP2 : Hid (Raws w lP nP cP) := hRP
    have hnP := hRP.2.1
    have hnI : (nP : Int) ≤ 140737488355328 := by omega
    clear hbP hRP RP SM HA HWA HBB HWB HQA HQB HQA2 HQB2 hAI2 hBI2
    go_upto_region 7 with fail
    go_cut [7] from 16 to 72 (fun s7 wx => wP = wx ∧ s7 = .int .i64 ((nP / 3 : Nat) : Int))
    case first =>
      go_wp2_with fail
      go_meet
      exact ⟨rfl, rfl⟩
    case rest =>
    obtain ⟨rfl, rfl⟩ := hcut
    obtain ⟨t, ht⟩ : ∃ t, t = nP / 3 := ⟨_, rfl⟩
    rw [← ht]
    have ht3 : 3 * t ≤ nP := by omega
    have hcP := RP2.out.1
    have htI : (t : Int) ≤ 46912496118443 := by omega
    have HWT : Hid (IntKind.i64.wrap (2 * (t : Int)) = 2 * (t : Int)) := (by rw [IntKind.wrap_i64]; omega : IntKind.i64.wrap (2 * (t : Int)) = 2 * (t : Int))
    have upP : Below w.heap.size w wP := HB.out.trans (HBP.out.mono HB.out.size)
    have UPP : Hid _ := upP
    have ks : ∀ W la ln lc pa pl pc, Below wP.heap.size wP W → Raws w la ln lc → PPar W pa pl → pl ≤ 2 → Calls Tryd.prog 14 #[.slice la ln lc, .slice pa pl pc, .int .i64 many, .int .i64 1] W fun e w' => SOut W many pl 12 (bnd 1 ln) e w' := fun W la ln lc pa pl pc hb hR hP hpl =>
      KSC.out 1 W la pa ln lc pl pc (by decide) (by decide) (by decide) (Raws_below (UPP.out.trans (hb.mono UPP.out.size)) hR) hP hpl (Names_below (UPP.out.trans (hb.mono UPP.out.size)) HR.out.2)
    have KS : Hid _ := ks
    have nm : ∀ W, Below wP.heap.size wP W → W.cell? ⟨0, k, none⟩ = some (.string (nu k)) := fun W hb => Names_below (UPP.out.trans (hb.mono UPP.out.size)) HR.out.2 k (by have := HK.out; omega)
    have NM : Hid _ := nm
    have ra := Raws_part RP2.out 0 t (by omega)
    rw [Nat.sub_zero] at ra
    have RA : Hid _ := ra
    have rb := Raws_part RP2.out t (2 * t - t) (by omega)
    have RB : Hid _ := rb
    have rc := Raws_part RP2.out (2 * t) (nP - 2 * t) (by omega)
    have RC : Hid _ := rc
    have s12 : ∀ W, _ := fun W => slice_to W lP nP cP t (t : Int) rfl (by omega)
    have S12 : Hid _ := s12
    have s22 : ∀ W, _ := fun W => slice_mid W lP nP cP t (2 * t) (t : Int) (2 * (t : Int)) rfl (by omega) (by omega) (by omega)
    have S22 : Hid _ := s22
    have s30 : ∀ W, _ := fun W => slice_from W lP nP cP (2 * t) (2 * (t : Int)) (by omega) (by omega)
    have S30 : Hid _ := s30
    obtain ⟨i0, gi, gz0, gz1, gz2⟩ := info_parts infoUnit
    have I0 : Hid _ := And.intro gi (And.intro gz0 (And.intro gz1 gz2))
    clear ht ht3 hcP htI upP ks nm ra rb rc s12 s22 s30 gi gz0 gz1 gz2 hnP hnI
    generalize u4 = v4 at *
    go_upto_region 8 with fail
    refine region_gathered (by kernel_rfl) 34 37 2 (by kernel_rfl) (by simp) (GP wP.heap.size many k v4 lP nP cP t) (GP_below wP.heap.size many k v4 lP nP cP t) ?_ ?_
    · refine ⟨?_, ?_, ?_, ?_, ?_, ?_, ?_, ?_, ?_, ?_, ?_, ?_, ?_, ?_, ?_, ?_, ?_, ?_, ?_, ?_, ?_, ?_, ?_, ?_, ?_, ?_, ?_, ?_, ?_, ?_, ?_, ?_, ?_, ?_, ?_, ?_, ?_, trivial⟩
      · intro a W K hB hk hK
        have e4 : a.tmps[4]?.getD undef = v4 := by rw [hB.2.2.2 4 (by omega)]; rfl
        go_simp
        exact hK _ _ rfl (Below.refl _ _)
      · intro a W K hB hk hK
        have e5 : a.tmps[5]?.getD undef = .int .i64 k := by rw [hB.2.2.2 5 (by omega)]; rfl
        go_simp
        exact hK _ _ rfl (Below.refl _ _)
      · intro a W K hB hk hK
        have g : a.tmps[35]?.getD undef = .int .i64 k := hk 1 (by kernel_rfl)
        have h3 := HI3.out
        go_simp
        exact hK _ _ rfl (Below.refl _ _)
      · intro a W K hB hk hK
        have g : a.tmps[36]?.getD undef = .pointer (some ⟨0, k, none⟩) := hk 2 (by kernel_rfl)
        have c := NM.out W hB.1
        go_simp
        exact hK _ _ rfl (Below.refl _ _)
      · intro a W K hB hk hK
        have hz := hB.1.size
        go_simp
        exact hK _ _ ⟨W.heap.size, rfl, hz, got1 W _⟩ (below_a W _)
      · intro a W K hB hk hK
        have e5 : a.tmps[5]?.getD undef = .int .i64 k := by rw [hB.2.2.2 5 (by omega)]; rfl
        go_simp
        exact hK _ _ rfl (Below.refl _ _)
      · intro a W K hB hk hK
        have g : a.tmps[39]?.getD undef = .int .i64 k := hk 5 (by kernel_rfl)
        have h3 := HI3.out
        go_simp
        exact hK _ _ (by show Value.int _ _ = Value.int _ _; rw [HWK2.out]) (Below.refl _ _)
      · intro a W K hB hk hK
        have g : a.tmps[40]?.getD undef = .int .i64 (2 + k) := hk 6 (by kernel_rfl)
        go_simp
        exact hK _ _ rfl (Below.refl _ _)
      · intro a W K hB hk hK
        have g : a.tmps[41]?.getD undef = .agg #[.string ⟨#[97, 114, 114]⟩, .int .i64 (2 + k)] := hk 7 (by kernel_rfl)
        have hz := hB.1.size
        go_simp
        exact hK _ _ ⟨W.heap.size, rfl, hz, got1 W _⟩ (below_a W _)
      · intro a W K hB hk hK
        have hz := hB.1.size
        go_simp
        exact hK _ _ ⟨W.heap.size, rfl, hz, got1 W _⟩ (below_a W _)
      · intro a W K hB hk hK
        have e6 : a.tmps[6]?.getD undef = .slice lP nP cP := by rw [hB.2.2.2 6 (by omega)]; rfl
        go_simp
        exact hK _ _ rfl (Below.refl _ _)
      · intro a W K hB hk hK
        have e7 : a.tmps[7]?.getD undef = .int .i64 t := by rw [hB.2.2.2 7 (by omega)]; rfl
        go_simp
        exact hK _ _ rfl (Below.refl _ _)
      · intro a W K hB hk hK
        have g : a.tmps[44]?.getD undef = .slice lP nP cP := hk 10 (by kernel_rfl)
        have g2 : a.tmps[45]?.getD undef = .int .i64 t := hk 11 (by kernel_rfl)
        have S1 := S12.out
        go_simp
        exact hK _ _ rfl (Below.refl _ _)
      · intro a W K hB hk hK
        have hz := hB.1.size
        go_simp
        exact hK _ _ ⟨W.heap.size, rfl, hz, got1 W _⟩ (below_a W _)
      · intro a W K hB hk hK
        have e3 : a.tmps[3]?.getD undef = .int .i64 many := by rw [hB.2.2.2 3 (by omega)]; rfl
        go_simp
        exact hK _ _ rfl (Below.refl _ _)
      · intro a W K hB hk hK
        have g : a.tmps[46]?.getD undef = .slice (from_ lP cP 0) t cP := hk 12 (by kernel_rfl)
        obtain ⟨b, g2, _, hb⟩ : BlockAt wP.heap.size (a.tmps[47]?.getD undef) 2 pqcells 9 W := hk 13 (by kernel_rfl)
        have g3 : a.tmps[48]?.getD undef = .int .i64 many := hk 14 (by kernel_rfl)
        have HPQ : Hid _ := par_pq hb
        have HBW : Hid (Below wP.heap.size wP W) := hB.1
        have HK : Hid _ := hK
        clear hB hk hK hb
        go_simp
        go_at_call 14
        refine (KS.out _ _ _ _ _ _ _ HBW.out RA.out HPQ.out (by decide)).mono ?_
        rintro e w2 ⟨hb, ao, nn, cap, L5, rfl, hn5, hok5, hc5, hs5, _⟩
        exact HK.out _ _ ⟨ao, nn, cap, L5, _, _, rfl, ⟨HBW.out.size, hb.size, Nat.le_refl _⟩, ⟨hok5, Nat.le_trans hc5 (bnd1 _), hn5⟩, hs5⟩ hb
      · intro a W K hB hk hK
        obtain ⟨b9, e9, l9, h9⟩ : GP wP.heap.size many k v4 lP nP cP t 9 (a.tmps[43]?.getD undef) W := hk 9 (by kernel_rfl)
        obtain ⟨ao, n, c, L, s, e, h⟩ : GP wP.heap.size many k v4 lP nP cP t 15 (a.tmps[49]?.getD undef) W := hk 15 (by kernel_rfl)
        have g := h.1
        go_simp
        exact hK _ _ ⟨_, ao, n, c, L, s, e, rfl, ⟨b9, rfl, l9, h9⟩, rfl, h.2⟩ (Below.refl _ _)
      · intro a W K hB hk hK
        have hz := hB.1.size
        go_simp
        exact hK _ _ ⟨W.heap.size, rfl, hz, got1 W _⟩ (below_a W _)
      · intro a W K hB hk hK
        have e6 : a.tmps[6]?.getD undef = .slice lP nP cP := by rw [hB.2.2.2 6 (by omega)]; rfl
        go_simp
        exact hK _ _ rfl (Below.refl _ _)
      · intro a W K hB hk hK
        have e7 : a.tmps[7]?.getD undef = .int .i64 t := by rw [hB.2.2.2 7 (by omega)]; rfl
        go_simp
        exact hK _ _ rfl (Below.refl _ _)
      · intro a W K hB hk hK
        have e7 : a.tmps[7]?.getD undef = .int .i64 t := by rw [hB.2.2.2 7 (by omega)]; rfl
        go_simp
        exact hK _ _ rfl (Below.refl _ _)
      · intro a W K hB hk hK
        have g : a.tmps[54]?.getD undef = .int .i64 t := hk 20 (by kernel_rfl)
        go_simp
        exact hK _ _ (by show Value.int _ _ = Value.int _ _; rw [HWT.out]) (Below.refl _ _)
      · intro a W K hB hk hK
        have g : a.tmps[52]?.getD undef = .slice lP nP cP := hk 18 (by kernel_rfl)
        have g2 : a.tmps[53]?.getD undef = .int .i64 t := hk 19 (by kernel_rfl)
        have g3 : a.tmps[55]?.getD undef = .int .i64 (2 * (t : Int)) := hk 21 (by kernel_rfl)
        have S1 := S22.out
        go_simp
        exact hK _ _ rfl (Below.refl _ _)
      · intro a W K hB hk hK
        have hz := hB.1.size
        go_simp
        exact hK _ _ ⟨W.heap.size, rfl, hz, got1 W _⟩ (below_a W _)
      · intro a W K hB hk hK
        have e3 : a.tmps[3]?.getD undef = .int .i64 many := by rw [hB.2.2.2 3 (by omega)]; rfl
        go_simp
        exact hK _ _ rfl (Below.refl _ _)
      · intro a W K hB hk hK
        have g : a.tmps[56]?.getD undef = .slice (from_ lP cP t) (2 * t - t) (cP - t) := hk 22 (by kernel_rfl)
        obtain ⟨b, g2, _, hb⟩ : BlockAt wP.heap.size (a.tmps[57]?.getD undef) 1 pcells 9 W := hk 23 (by kernel_rfl)
        have g3 : a.tmps[58]?.getD undef = .int .i64 many := hk 24 (by kernel_rfl)
        have HPQ : Hid _ := par_p hb
        have HBW : Hid (Below wP.heap.size wP W) := hB.1
        have HK : Hid _ := hK
        generalize 2 * t - t = t2 at *
        generalize cP - t = c2 at *
        clear hB hk hK hb
        go_simp
        go_at_call 14
        refine (KS.out _ _ _ _ _ _ _ HBW.out RB.out HPQ.out (by decide)).mono ?_
        rintro e w2 ⟨hb, ao, nn, cap, L5, rfl, hn5, hok5, hc5, hs5, _⟩
        exact HK.out _ _ ⟨ao, nn, cap, L5, _, _, rfl, ⟨HBW.out.size, hb.size, Nat.le_refl _⟩, ⟨hok5, Nat.le_trans hc5 (bnd1 _), hn5⟩, hs5⟩ hb
      · intro a W K hB hk hK
        obtain ⟨b9, e9, l9, h9⟩ : GP wP.heap.size many k v4 lP nP cP t 17 (a.tmps[51]?.getD undef) W := hk 17 (by kernel_rfl)
        obtain ⟨ao, n, c, L, s, e, h⟩ : GP wP.heap.size many k v4 lP nP cP t 25 (a.tmps[59]?.getD undef) W := hk 25 (by kernel_rfl)
        have g := h.1
        go_simp
        exact hK _ _ ⟨_, ao, n, c, L, s, e, rfl, ⟨b9, rfl, l9, h9⟩, rfl, h.2⟩ (Below.refl _ _)
      · intro a W K hB hk hK
        have e6 : a.tmps[6]?.getD undef = .slice lP nP cP := by rw [hB.2.2.2 6 (by omega)]; rfl
        go_simp
        exact hK _ _ rfl (Below.refl _ _)
      · intro a W K hB hk hK
        have e7 : a.tmps[7]?.getD undef = .int .i64 t := by rw [hB.2.2.2 7 (by omega)]; rfl
        go_simp
        exact hK _ _ rfl (Below.refl _ _)
      · intro a W K hB hk hK
        have g : a.tmps[62]?.getD undef = .int .i64 t := hk 28 (by kernel_rfl)
        go_simp
        exact hK _ _ (by show Value.int _ _ = Value.int _ _; rw [HWT.out]) (Below.refl _ _)
      · intro a W K hB hk hK
        have g : a.tmps[61]?.getD undef = .slice lP nP cP := hk 27 (by kernel_rfl)
        have g3 : a.tmps[63]?.getD undef = .int .i64 (2 * (t : Int)) := hk 29 (by kernel_rfl)
        have S1 := S30.out
        go_simp
        exact hK _ _ rfl (Below.refl _ _)
      · intro a W K hB hk hK
        have e3 : a.tmps[3]?.getD undef = .int .i64 many := by rw [hB.2.2.2 3 (by omega)]; rfl
        go_simp
        exact hK _ _ rfl (Below.refl _ _)
      · intro a W K hB hk hK
        have g : a.tmps[64]?.getD undef = .slice (from_ lP cP (2 * t)) (nP - 2 * t) (cP - 2 * t) := hk 30 (by kernel_rfl)
        have g3 : a.tmps[65]?.getD undef = .int .i64 many := hk 31 (by kernel_rfl)
        have HBW : Hid (Below wP.heap.size wP W) := hB.1
        have HK : Hid _ := hK
        have HPQ : Hid _ := par_none W
        clear hB hk hK
        go_simp
        go_at_call 14
        refine (KS.out _ _ _ _ _ _ _ HBW.out RC.out HPQ.out (by decide)).mono ?_
        rintro e w2 ⟨hb, ao, nn, cap, L5, rfl, hn5, hok5, hc5, hs5, _⟩
        exact HK.out _ _ ⟨ao, nn, cap, L5, _, _, rfl, ⟨HBW.out.size, hb.size, Nat.le_refl _⟩, ⟨hok5, Nat.le_trans hc5 (bnd1 _), hn5⟩, hs5⟩ hb
      · intro a W K hB hk hK
        obtain ⟨ao, n, c, L, s, e, h⟩ : GP wP.heap.size many k v4 lP nP cP t 32 (a.tmps[66]?.getD undef) W := hk 32 (by kernel_rfl)
        have g := h.1
        go_simp
        exact hK _ _ ⟨ao, n, c, L, s, e, rfl, rfl, h.2⟩ (Below.refl _ _)
      · intro a W K hB hk hK
        obtain ⟨pv0, a0, n0, c0, L0, s0, e0, g0, ⟨p0, rfl, hp0⟩, h0⟩ : GP wP.heap.size many k v4 lP nP cP t 16 (a.tmps[50]?.getD undef) W := hk 16 (by kernel_rfl)
        obtain ⟨pv1, a1, n1, c1, L1, s1, e1, g1, ⟨p1, rfl, hp1⟩, h1⟩ : GP wP.heap.size many k v4 lP nP cP t 26 (a.tmps[60]?.getD undef) W := hk 26 (by kernel_rfl)
        obtain ⟨a2, n2, c2, L2, s2, e2, g2, h2⟩ : GP wP.heap.size many k v4 lP nP cP t 33 (a.tmps[67]?.getD undef) W := hk 33 (by kernel_rfl)
        obtain ⟨x, hx, hf⟩ := funcs_made hp0 hp1 hB.1.size h0 h1 h2
        go_simp
        exact hK _ _ ⟨x, by rw [hx], hf⟩ (below_a W _)
      · intro a W K hB hk hK
        have g3 : a.tmps[37]?.getD undef = .string (nu k) := hk 3 (by kernel_rfl)
        obtain ⟨bv, g4, hv⟩ : GP wP.heap.size many k v4 lP nP cP t 4 (a.tmps[38]?.getD undef) W := hk 4 (by kernel_rfl)
        obtain ⟨ba, g8, ha⟩ : GP wP.heap.size many k v4 lP nP cP t 8 (a.tmps[42]?.getD undef) W := hk 8 (by kernel_rfl)
        obtain ⟨x, g34, hf⟩ : GP wP.heap.size many k v4 lP nP cP t 34 (a.tmps[68]?.getD undef) W := hk 34 (by kernel_rfl)
        obtain ⟨y, ⟨y1, y2, y3⟩, hy⟩ := unit_made hf hv ha
        generalize x.bf = xb at *
        generalize hnk : nu k = nk at *
        go_simp
        exact hK _ _ ⟨y, by show _ = Value.agg #[.string (nu k), .slice (some ⟨y.bv, 0, none⟩) 2 2, .slice (some ⟨y.ba, 0, none⟩) 1 1, .slice (some ⟨y.bf, 0, none⟩) 3 3]; rw [y1, y2, y3, hnk], hy⟩ (Below.refl _ _)
      · intro a W K hB hk hK
        obtain ⟨x, g, hx⟩ : GP wP.heap.size many k v4 lP nP cP t 35 (a.tmps[69]?.getD undef) W := hk 35 (by kernel_rfl)
        rw [ucells] at g
        go_simp
        exact hK _ _ ⟨x, W.heap.size, rfl, hx.below (below_a W _), got1 W _⟩ (below_a W _)
    · intro u w2 hb hg
      have h34 : u 34 = v4 := hg 0 (by decide)
      obtain ⟨x, bu, e36, ⟨hx1, hx2, hx3, hx4, hx5⟩, hgu⟩ : GP wP.heap.size many k v4 lP nP cP t 36 (u 70) w2 := hg 36 (by decide)
      have hP := HP.out
      obtain ⟨xs, ho, hxs⟩ := hP.row
      have hb2 : Below wr.heap.size wr w2 := HBP.out.trans (hb.mono HBP.out.size)
      have zB := HB.out.size
      have zP := HBP.out.size
      have ho2 : w2.ownsRow w.heap.size 41 4 v4 k xs := owns_below ho hb2
      have OW : Hid (World.ownsRow w2 w.heap.size 41 4 (u 34) k xs) := by rw [h34]; exact ho2
      have NEW : Hid (∀ (j : Nat) (v : Value), ([.string (nu k), .slice (some ⟨x.bv, 0, none⟩) 2 2, .slice (some ⟨x.ba, 0, none⟩) 1 1, .slice (some ⟨x.bf, 0, none⟩) 3 3] : List Value)[j]? = some v → w2.cell? ((⟨bu, 0, none⟩ : Addr).add j) = some v) := four_of hgu
      have ONE : Hid (∀ v ∈ ([.string (nu k), .slice (some ⟨x.bv, 0, none⟩) 2 2, .slice (some ⟨x.ba, 0, none⟩) 1 1, .slice (some ⟨x.bf, 0, none⟩) 3 3] : List Value), v.oneCell' = true) := by simp [Hid, Value.oneCell']
      have NB : Hid (w.heap.size ≤ w2.heap.size) := by have := hb2.size; exact (by omega : w.heap.size ≤ w2.heap.size)
      have FIN : Hid (∀ (w4 : World) (g' c' : Nat), w4.ownsRow w.heap.size 41 4 (.slice (some ⟨g', 0, none⟩) (k + 1) c') (k + 1) (xs ++ [.string (nu k), .slice (some ⟨x.bv, 0, none⟩) 2 2, .slice (some ⟨x.ba, 0, none⟩) 1 1, .slice (some ⟨x.bf, 0, none⟩) 3 3]) → World.grownBy w2 w4 (u 34).ownBlock → ((u 34).ownBlock = some g' ∨ g' = w2.heap.size) → PRel w many (.slice (some ⟨g', 0, none⟩) (k + 1) c') (.int .i64 ((k : Int) + 1)) w4) := fun w4 g' c' ho' hg' hat => by
        rw [h34] at hg' hat
        exact ⟨k + 1, _, by simp, HK.out.1, (HB.out.trans (hb2.mono zB)).grown hg' (by have := hb2.size; omega) fun g e => (ho2.lt g e).1, plies_next hP hb2 ho2 hxs ho' hg' hat hx5 hx3 hx4 (by omega) hx2 zB⟩
      have E36 : Hid (u 70 = .slice (some ⟨bu, 0, none⟩) 1 1) := e36
      have hkI : (k : Int) ≤ 2 := by have := HK.out; omega
      have hk2 : k ≤ 2 := HK.out.2
      clear hg h34 e36 hgu hx1 hx2 hx3 hx4 hx5 hP ho hxs hb2 zB zP ho2 hb
      simp only [mkL, Nat.reduceLeDiff, Nat.reduceLT, Nat.reduceAdd, and_true, and_false, if_true, if_false, List.drop_succ_cons, List.drop_zero]
      refine wpList_append_lies _ rfl (.tmp 34) (.tmp 70) 23 rfl w.heap.size 41 i0 (.agg #[.string ⟨#[]⟩, .slice none 0 0, .slice none 0 0, .slice none 0 0]) 4 88 Tryd.underlying23 I0.out.1 I0.out.2.1 I0.out.2.2.1 I0.out.2.2.2 rfl (by decide) (u 34) k xs rfl OW.out ⟨bu, 0, none⟩ 1 1 [.string (nu k), .slice (some ⟨x.bv, 0, none⟩) 2 2, .slice (some ⟨x.ba, 0, none⟩) 1 1, .slice (some ⟨x.bf, 0, none⟩) 3 3] E36.out rfl NEW.out ONE.out (by decide) (by unfold maxLen; omega) (by omega) NB.out _ rfl ?_
      intro g' c' w4 ho' hg' hat _
      have H4 : Hid _ := FIN.out w4 g' c' ho' hg' hat
      clear ho' hg' hat
      go_wp2_with fail
      go_roundw
      case rel => exact H4.out
      case measure => simp [intOf]; omega
end Go.Proofs.YtgjemlhnlpglbaaDoor.PProg
