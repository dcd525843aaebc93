/-
  WHAT names.Check GIVES, for every program: what it is refused with (P7.2).
  Conditions: the units lie there.
-/
import Derived.Test.YtgjemlhnlpglbaaDoorR46
import Derived.Test.YtgjemlhnlpglbaaDoorR47
import Derived.Test.YtgjemlhnlpglbaaDoorR48
namespace Go.Proofs.YtgjemlhnlpglbaaDoor.NCheck
open Go.RowKit NPlace NPlain NUnits NLists Go.Proofs.YtgjemlhnlpglbaaDoor.Ident Trees Forms NSense NScope NAsk NBoth NCheckUnit


set_option maxHeartbeats 4000000 in
theorem check (w : World) (len pcap : Nat) (pa : Option Addr) (U : Nat → UnitD) (hl : len ≤ maxLen) (hU : URow w pa len U) :
    Calls Tryd.prog 7 #[.slice pa len pcap] w fun e w' => e = .returned (.int .i64 (programFault len U)) ∧ Below w.heap.size w w' := by
  have PF : Hid (programFault len U = if len ≤ 5 then (if first (fun i => unitFault (U i)) len = 0 then (if twiceB (unitNames U) len = true then 6 else if 250 < allWords U len then 1 else first (fun i => unitSense len U (U i)) len) else first (fun i => unitFault (U i)) len) else 1) := (rfl : programFault len U = _)
  have kc : ∀ (k : Nat) (W : World), k < len → Below w.heap.size w W → _ := fun k W hk hb => UnitHead.check (U k) W (UnitLies_below hb (hU k hk).2)
  have ku : ∀ W, Below w.heap.size w W → _ := fun W hb => units W len pcap pa (unitNames U) hl (uheads (URow_below hb hU))
  have kt : ∀ W k caps n z, n ≤ maxLen → Tells W k caps n z → _ := fun W k caps n z h t => twice W k n caps z h t
  have km : ∀ W, len ≤ 5 → (∀ i, i < len → unitFault (U i) = 0) → Below w.heap.size w W → _ := fun W h h' hb => NTooMany.tooMany W len pcap pa U h (URow_below hb hU) h'
  have kx : ∀ (k : Nat) (W : World), k < len → unitFault (U k) = 0 → Below w.heap.size w W → _ := fun k W hk h hb => checkUnit W len pcap pa U (U k) hl (URow_below hb hU) (UnitLies_below hb (hU k hk).2) h
  have HU : Hid (URow w pa len U) := hU
  have HLM : Hid (len ≤ maxLen) := hl
  obtain ⟨f, ef⟩ : ∃ f : Nat → Int, f = fun i => unitFault (U i) := ⟨_, rfl⟩
  have HF : Hid (∀ i, f i = unitFault (U i)) := fun i => by rw [ef]
  obtain ⟨g, eg⟩ : ∃ g : Nat → Int, g = fun i => unitSense len U (U i) := ⟨_, rfl⟩
  have HG : Hid (∀ i, g i = unitSense len U (U i)) := fun i => by rw [eg]
  rw [← ef, ← eg] at PF
  have KC : Hid _ := kc
  have KU : Hid _ := ku
  have KT : Hid _ := kt
  have KM : Hid _ := km
  have KX : Hid _ := kx
  unfold maxLen at hl
  have hlI : (len : Int) ≤ 9223372036854775807 := by omega
  obtain ⟨R, eR⟩ : ∃ R, R = programFault len U := ⟨_, rfl⟩
  rw [← eR] at PF ⊢
  clear kc ku kt km kx hU hl ef eg eR
  by_cases h5 : len ≤ 5
  case neg =>
    have E : Hid (R = 1) := PF.out.trans (if_neg h5)
    have h5I : (5 : Int) < len := by omega
    clear PF KC KU KT KM KX HU HF HG h5
    go_enter Tryd.func7, Tryd.ntmps7
    go_wp2
    go_ret
    exact ⟨by rw [E.out]; rfl, Below.refl _ _⟩
  have h5I : (len : Int) ≤ 5 := by omega
  have PF2 : Hid (R = if first f len = 0 then (if twiceB (unitNames U) len = true then 6 else if 250 < allWords U len then 1 else first g len) else first f len) := PF.out.trans (if_pos h5)
  have H5 : Hid (len ≤ 5) := h5
  clear PF h5
  go_enter Tryd.func7, Tryd.ntmps7
  go_wp2
  go_loopw [14] (fun i wr => ∃ k : Nat, k ≤ len ∧ i = .int .i64 k ∧ first f k = 0 ∧ Below w.heap.size w wr) (fun i _ => len - (intOf i).toNat)
  case atStart => exact ⟨0, Nat.zero_le _, rfl, rfl, Below.refl _ _⟩
  case round =>
    obtain ⟨k, hk, rfl, hf, hbel⟩ := hrel
    have FK : Hid (first f k = 0) := hf
    have HB : Hid _ := hbel
    clear hf
    by_cases hkl : k < len
    · obtain ⟨⟨bl, off, ea, t0, t1, t2, t3⟩, _⟩ := URow_below hbel HU.out k hkl
      have kk := fun W h => KC.out k W hkl h
      obtain ⟨r, er⟩ : ∃ r, r = unitFault (U k) := ⟨_, rfl⟩
      have ER : f k = r := (HF.out k).trans er.symm
      rw [← er] at kk
      clear er KC HF HU KU KT KM KX HG
      have hkI : (k : Int) < len := by omega
      have hbz := hbel.alloc hbel.size (.cells #[.string (U k).name, .slice (U k).va (U k).vl (U k).vc, .slice (U k).aa (U k).al (U k).ac, .slice (U k).fa (U k).fl (U k).fc] 41)
      generalize U k = v at t0 t1 t2 t3 kk hbz
      subst ea
      have KK : Hid _ := kk
      have BZ : Hid _ := hbz
      clear kk hbz hbel
      by_cases hr : r = 0
      · subst hr
        have FS : Hid (first f (k + 1) = 0) := (first_succ FK.out).trans ER
        clear ER
        go_wp2_with (go_at_call 15; refine (KK.out _ BZ.out).mono ?_; rintro e w1 ⟨rfl, hb1⟩; have HB1 : Hid _ := BZ.out.trans (hb1.mono BZ.out.size); clear hb1)
        go_roundw
        case rel => exact ⟨k + 1, by omega, by go_num, FS.out, HB1.out⟩
        case measure => simp [intOf]; omega
      · have hfk : first f (k + 1) = r := (first_succ FK.out).trans ER
        have hfl : first f len = r := (first_stays (k := k + 1) (by omega) (by rw [hfk]; exact hr)).trans hfk
        have e2 : R = r := by rw [PF2.out, if_neg (by rw [hfl]; exact hr), hfl]
        have E : Hid (R = r) := e2
        have hr2 : (r == 0) = false := beq_eq_false_iff_ne.2 hr
        clear hfk hfl e2 hr PF2 ER
        go_wp2_with (go_at_call 15; refine (KK.out _ BZ.out).mono ?_; rintro e w1 ⟨rfl, hb1⟩; have HB1 : Hid _ := BZ.out.trans (hb1.mono BZ.out.size); clear hb1)
        go_ret
        exact ⟨by rw [E.out]; rfl, HB1.out⟩
    · obtain rfl : k = len := by omega
      have hz : ∀ i, i < k → unitFault (U i) = 0 := fun i hi => (HF.out i).symm.trans (first_zero FK.out i hi)
      have HZ : Hid _ := hz
      have km := fun W => KM.out W H5.out hz
      have PF3 : Hid (R = if twiceB (unitNames U) k = true then 6 else if 250 < allWords U k then 1 else first g k) := PF2.out.trans (if_pos FK.out)
      clear PF2 KC HF FK hz KM hbel
      rcases Bool.eq_false_or_eq_true (twiceB (unitNames U) k) with h1 | h1
      · have E : Hid (R = 6) := PF3.out.trans (if_pos h1)
        clear PF3 KX HG km
        go_wp2_with (first
          | (go_at_call 16; refine (KU.out _ HB.out).mono ?_; rintro e w1 ⟨hb1, b, rfl, ht⟩; have HB1 : Hid _ := HB.out.trans (hb1.mono HB.out.size); have T1 : Hid _ := ht; clear hb1 ht)
          | (go_at_call 17; refine (KT.out _ _ _ _ _ HLM.out T1.out).mono ?_; rintro e w2 ⟨he, hb2⟩; rw [h1] at he; subst he; have HB2 : Hid _ := HB1.out.trans (hb2.mono HB1.out.size); clear hb2))
        go_ret
        exact ⟨by rw [E.out]; rfl, HB2.out⟩
      have PF4 : Hid (R = if 250 < allWords U k then 1 else first g k) := PF3.out.trans (if_neg (by rw [h1]; decide))
      clear PF3
      by_cases h2 : 250 < allWords U k
      · have E : Hid (R = 1) := PF4.out.trans (if_pos h2)
        have h2d : decide (250 < allWords U k) = true := decide_eq_true h2
        have KM2 : Hid _ := km
        clear PF4 KX HG km h2
        go_wp2_with (first
          | (go_at_call 16; refine (KU.out _ HB.out).mono ?_; rintro e w1 ⟨hb1, b, rfl, ht⟩; have HB1 : Hid _ := HB.out.trans (hb1.mono HB.out.size); have T1 : Hid _ := ht; clear hb1 ht)
          | (go_at_call 17; refine (KT.out _ _ _ _ _ HLM.out T1.out).mono ?_; rintro e w2 ⟨he, hb2⟩; rw [h1] at he; subst he; have HB2 : Hid _ := HB1.out.trans (hb2.mono HB1.out.size); clear hb2)
          | (go_at_call 18; refine (KM2.out _ HB2.out).mono ?_; rintro e w3 ⟨he, hb3⟩; rw [h2d] at he; subst he; have HB3 : Hid _ := HB2.out.trans (hb3.mono HB2.out.size); clear hb3))
        go_ret
        exact ⟨by rw [E.out]; rfl, HB3.out⟩
      have E : Hid (R = first g k) := PF4.out.trans (if_neg h2)
      have h2d : decide (250 < allWords U k) = false := decide_eq_false h2
      have KM2 : Hid _ := km
      clear PF4 km h2
      go_wp2_with (first
        | (go_at_call 16; refine (KU.out _ HB.out).mono ?_; rintro e w1 ⟨hb1, b, rfl, ht⟩; have HB1 : Hid _ := HB.out.trans (hb1.mono HB.out.size); have T1 : Hid _ := ht; clear hb1 ht)
        | (go_at_call 17; refine (KT.out _ _ _ _ _ HLM.out T1.out).mono ?_; rintro e w2 ⟨he, hb2⟩; rw [h1] at he; subst he; have HB2 : Hid _ := HB1.out.trans (hb2.mono HB1.out.size); clear hb2)
        | (go_at_call 18; refine (KM2.out _ HB2.out).mono ?_; rintro e w3 ⟨he, hb3⟩; rw [h2d] at he; subst he; have HB3 : Hid _ := HB2.out.trans (hb3.mono HB2.out.size); clear hb3))
      clear KU KT KM2 h1 h2d T1
      go_loopw [31] (fun i wr => ∃ j : Nat, j ≤ k ∧ i = .int .i64 j ∧ first g j = 0 ∧ Below w.heap.size w wr) (fun i _ => k - (intOf i).toNat)
      case atStart => exact ⟨0, Nat.zero_le _, rfl, rfl, HB3.out⟩
      case round =>
        obtain ⟨j, hj, rfl, hg, hbel⟩ := hrel
        have GJ : Hid (first g j = 0) := hg
        have HC : Hid _ := hbel
        clear hg
        by_cases hjk : j < k
        · obtain ⟨⟨bl, off, ea, t0, t1, t2, t3⟩, _⟩ := URow_below hbel HU.out j hjk
          have kk := fun W h => KX.out j W hjk (HZ.out j hjk) h
          obtain ⟨r, er⟩ : ∃ r, r = unitSense k U (U j) := ⟨_, rfl⟩
          have ER : g j = r := (HG.out j).trans er.symm
          rw [← er] at kk
          clear er KX HG HU HZ
          have hjI : (j : Int) < k := by omega
          have hbz := hbel.alloc hbel.size (.cells #[.string (U j).name, .slice (U j).va (U j).vl (U j).vc, .slice (U j).aa (U j).al (U j).ac, .slice (U j).fa (U j).fl (U j).fc] 41)
          generalize U j = v at t0 t1 t2 t3 kk hbz
          subst ea
          have KK : Hid _ := kk
          have BZ : Hid _ := hbz
          clear kk hbz hbel
          by_cases hr : r = 0
          · subst hr
            have GS : Hid (first g (j + 1) = 0) := (first_succ GJ.out).trans ER
            clear ER
            go_wp2_with (go_at_call 19; refine (KK.out _ BZ.out).mono ?_; rintro e w4 ⟨rfl, hb4⟩; have HB4 : Hid _ := BZ.out.trans (hb4.mono BZ.out.size); clear hb4)
            go_roundw
            case rel => exact ⟨j + 1, by omega, by go_num, GS.out, HB4.out⟩
            case measure => simp [intOf]; omega
          · have hgk : first g (j + 1) = r := (first_succ GJ.out).trans ER
            have hgl : first g k = r := (first_stays (k := j + 1) (by omega) (by rw [hgk]; exact hr)).trans hgk
            have e2 : R = r := E.out.trans hgl
            have E2 : Hid (R = r) := e2
            have hr2 : (r == 0) = false := beq_eq_false_iff_ne.2 hr
            clear hgk hgl e2 hr E ER
            go_wp2_with (go_at_call 19; refine (KK.out _ BZ.out).mono ?_; rintro e w4 ⟨rfl, hb4⟩; have HB4 : Hid _ := BZ.out.trans (hb4.mono BZ.out.size); clear hb4)
            go_ret
            exact ⟨by rw [E2.out]; rfl, HB4.out⟩
        · obtain rfl : j = k := by omega
          clear KX HG HU HZ hbel
          go_wp2
          go_ret
          exact ⟨by rw [E.out, GJ.out]; rfl, HC.out⟩
end Go.Proofs.YtgjemlhnlpglbaaDoor.NCheck
