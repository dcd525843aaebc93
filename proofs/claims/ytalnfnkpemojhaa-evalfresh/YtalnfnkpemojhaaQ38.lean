/-
  WHAT THE DOCUMENT's ProgramFault GIVES, for every program: what it is refused with (P7.2).
  Conditions: the units lie there; the params' lists have as much room as they have names.
-/
import Derived.Test.YtalnfnkpemojhaaQ18
import Derived.Test.YtalnfnkpemojhaaQ31
import Derived.Test.YtalnfnkpemojhaaQ15
import Derived.Test.YtalnfnkpemojhaaQ37
namespace Go.Proofs.Ytalnfnkpemojhaa.NRefProg
open Go.RowKit NPlace NPlain NUnits NLists Go.Proofs.Ytalnfnkpemojhaa.Ident Trees Forms NSense NScope NAsk NRefRow NRefUnit NTooMany NCheckUnit

set_option maxRecDepth 100000 in
set_option maxHeartbeats 8000000 in
theorem ref (w : World) (len pcap : Nat) (pa : Option Addr) (U : Nat → UnitD) (hl : len ≤ maxLen) (hU : URow w pa len U) (hcap : ∀ i, i < len → ∀ k, k < (U i).fl → ((U i).fs k).pl ≤ ((U i).fs k).pc ∧ ((U i).fs k).pc ≤ maxLen) :
    Calls Try.prog 8 #[.slice pa len pcap] w fun e w' => e = .returned (.int .i64 (programFault len U)) ∧ Below w.heap.size w w' := by
  have PF : Hid (programFault len U = if len ≤ 5 then (if first (fun i => unitFault (U i)) len = 0 then (if twiceB (unitNames U) len = true then 6 else if 250 < allWords U len then 1 else first (fun i => unitSense len U (U i)) len) else first (fun i => unitFault (U i)) len) else 1) := (rfl : programFault len U = _)
  have kc : ∀ (k : Nat) (W : World), k < len → Below w.heap.size w W → _ := fun k W hk hb => RefUnit.ref (U k) W (UnitLies_below hb (hU k hk).2)
  have kw : ∀ (k : Nat) (W : World), k < len → unitFault (U k) = 0 → Below w.heap.size w W → Calls Try.prog 21 #[.agg #[.string (U k).name, .slice (U k).va (U k).vl (U k).vc, .slice (U k).aa (U k).al (U k).ac, .slice (U k).fa (U k).fl (U k).fc]] W fun e w' => e = .returned (.int .i64 (wordsOf (U k))) ∧ Below W.heap.size W w' := fun k W hk h hb => NWords.unitWords (U k) W (UnitLies_below hb (hU k hk).2) (NWords.sized h).1 (NWords.sized h).2.1 (NWords.sized h).2.2
  have kd : ∀ W B v n z, n ≤ maxLen → TRow W B v n z → _ := fun W B v n z h t => doubledRow W B v n z h t
  have kp : ∀ W (f : FuncD), f.pl ≤ maxLen → f.pl ≤ f.pc → f.pc ≤ maxLen → Texts W f.pa f.pl f.ps → Calls Try.prog 22 #[.slice f.pa f.pl f.pc] W fun e w' => e = .returned (.bool (twiceB f.ps f.pl)) ∧ Below W.heap.size W w' := fun W f h1 h2 h3 h4 => by
    rw [twice_eq]
    exact NFind.doubled W f.pl f.pc f.pa f.ps h1 h2 h3 h4
  have ks : ∀ (u : UnitD) (f : FuncD) W, URow W pa len U → UnitLies W u → FuncLies W f → stmtsFault 12 f.bl f.body = 0 → Calls Try.prog 23 #[.slice pa len pcap, .agg #[.string u.name, .slice u.va u.vl u.vc, .slice u.aa u.al u.ac, .slice u.fa u.fl u.fc], .agg #[.string f.name, .bool f.op, .slice f.pa f.pl f.pc, .slice f.ba f.bl f.bc], .slice f.ba f.bl f.bc] W fun e w' => e = .returned (.int .i64 (stmtsSense len U u f 12 f.bl f.body)) ∧ Below W.heap.size W w' := fun u f W h1 h2 h3 h4 => NRefStmts.stmts len pcap pa U u f hl 12 W f.ba f.bl f.bc f.body h1 h2 h3 h3.2.2.1 h3.2.2.2.2 h4
  have HU : Hid (URow w pa len U) := hU
  have HCP : Hid _ := hcap
  obtain ⟨f, ef⟩ : ∃ f : Nat → Int, f = fun i => unitFault (U i) := ⟨_, rfl⟩
  have HF : Hid (∀ i, f i = unitFault (U i)) := fun i => by rw [ef]
  obtain ⟨g, eg⟩ : ∃ g : Nat → Int, g = fun i => unitSense len U (U i) := ⟨_, rfl⟩
  have HG : Hid (∀ i, g i = unitSense len U (U i)) := fun i => by rw [eg]
  rw [← ef, ← eg] at PF
  have KC : Hid _ := kc
  have KW : Hid _ := kw
  have KD : Hid _ := kd
  have KP : Hid _ := kp
  have KS : Hid _ := ks
  obtain ⟨i0, hi, hz0, hz1, hz2⟩ := info_parts infoStr
  obtain ⟨R, eR⟩ : ∃ R, R = programFault len U := ⟨_, rfl⟩
  rw [← eR] at PF ⊢
  unfold maxLen at hl
  have hlI : (len : Int) ≤ 9223372036854775807 := by omega
  clear kc kw kd kp ks hU hcap ef eg eR hl
  by_cases h5 : len ≤ 5
  case neg =>
    have E : Hid (R = 1) := PF.out.trans (if_neg h5)
    have h5I : (5 : Int) < len := by omega
    clear PF KC KW KD KP KS HU HF HG HCP h5 hi hz0 hz1 hz2
    go_enter Try.func8, Try.ntmps8
    go_wp2
    go_ret
    exact ⟨by rw [E.out]; rfl, Below.refl _ _⟩
  have h5I : (len : Int) ≤ 5 := by omega
  have PF2 : Hid (R = if first f len = 0 then (if twiceB (unitNames U) len = true then 6 else if 250 < allWords U len then 1 else first g len) else first f len) := PF.out.trans (if_pos h5)
  have H5 : Hid (len ≤ 5) := h5
  have HLM : Hid (len ≤ maxLen) := (by unfold maxLen; omega : len ≤ maxLen)
  clear PF h5
  go_enter Try.func8, Try.ntmps8
  go_wp2
  go_loopw [3, 4, 5] (fun v s i wr => ∃ k : Nat, k ≤ len ∧ i = .int .i64 k ∧ s = .int .i64 (allWords U k) ∧ TRow wr w.heap.size v k (unitNames U) ∧ Hid (first f k = 0) ∧ Hid (Below w.heap.size w wr)) (fun _ _ i _ => len - (intOf i).toNat)
  case atStart => exact ⟨0, Nat.zero_le _, rfl, rfl, TRow.nil _ _ _, (rfl : first f 0 = 0), Below.refl _ _⟩
  case round =>
    obtain ⟨k, hk, rfl, rfl, HT, FK, HB⟩ := hrel
    have hz : ∀ i, i < k → unitFault (U i) = 0 := fun i hi => (HF.out i).symm.trans (first_zero FK.out i hi)
    obtain ⟨hs0, hs1⟩ := all_bd k hz
    by_cases hkl : k < len
    · obtain ⟨⟨bl, off, ea, s0, s1, s2, s3⟩, _⟩ := HU.out k hkl
      have kk := fun W h => KC.out k W hkl h
      have kw := fun W h0 h => KW.out k W hkl h0 h
      have rk : ∀ W, Below w.heap.size w W → W.cell? ⟨bl, off + k * 4, none⟩ = some (.string (U k).name) ∧ W.cell? ⟨bl, off + k * 4 + 1, none⟩ = some (.slice (U k).va (U k).vl (U k).vc) ∧ W.cell? ⟨bl, off + k * 4 + 2, none⟩ = some (.slice (U k).aa (U k).al (U k).ac) ∧ W.cell? ⟨bl, off + k * 4 + 3, none⟩ = some (.slice (U k).fa (U k).fl (U k).fc) := fun W hb => ⟨(hb.cell (World.block_lt_of_cell? w _ s0)).trans s0, (hb.cell (World.block_lt_of_cell? w _ s1)).trans s1, (hb.cell (World.block_lt_of_cell? w _ s2)).trans s2, (hb.cell (World.block_lt_of_cell? w _ s3)).trans s3⟩
      have UN : Hid (unitNames U k = (U k).name) := (rfl : unitNames U k = _)
      have ES : Hid (allWords U (k + 1) = allWords U k + wordsOf (U k)) := (rfl : allWords U (k + 1) = _)
      have hwb := fun h => words_bd (u := U k) h
      obtain ⟨r, er⟩ : ∃ r, r = unitFault (U k) := ⟨_, rfl⟩
      have ER : f k = r := (HF.out k).trans er.symm
      rw [← er] at kk kw hwb
      clear er KC KW KD KP KS HCP HF HU HG s0 s1 s2 s3 hz
      have hkI : (k : Int) < len := by omega
      generalize allWords U k = S at hs0 hs1 ES ⊢
      generalize wordsOf (U k) = y at kw ES hwb
      generalize U k = v at kk kw rk UN
      have hS : S ≤ 190 := by omega
      subst ea
      have KK : Hid _ := kk
      have RK : Hid _ := rk
      obtain ⟨t0, t1, t2, t3⟩ := rk wr HB.out
      have hsz := HB.out.size
      clear kk rk hs1
      by_cases hr : r = 0
      · subst hr
        have FS : Hid (first f (k + 1) = 0) := (first_succ FK.out).trans ER
        obtain ⟨hy0, hy1⟩ := hwb rfl
        have kw2 := fun W h => kw W rfl h
        have KW2 : Hid _ := kw2
        clear ER kw kw2 hwb
        go_wp2_with (first
          | (go_at_call 20; refine (KK.out _ HB.out).mono ?_; rintro e w1 ⟨rfl, hb1⟩; have H1 : Hid (Below w.heap.size w w1) := HB.out.trans (hb1.mono hsz); have HT1 : Hid _ := HT.below hb1; have hsz1 := H1.out.size; clear t0 t1 t2 t3 hb1; obtain ⟨t0, t1, t2, t3⟩ := RK.out _ H1.out)
          | (at_builtin; refine wpList_append_own _ rfl _ _ 34 rfl w.heap.size 9 i0 (.string ⟨#[]⟩) 1 16 Try.underlying34 hi hz0 hz1 hz2 rfl (by decide) _ _ _ rfl (HT1.out.out.alloc _) _ 1 1 [.string v.name] rfl rfl one_news one_one (by unfold maxLen; omega) (by omega) (by simp; omega) ?_; intro v1 w4 hown hgrow _; have H4 : Hid (Below w.heap.size w w4) := (H1.out.alloc hsz1 _).grown hgrow (by simp; omega) (fun g hg => HT1.out.base hg); have HT4 : Hid (TRow w4 w.heap.size v1 (k + 1) (unitNames U)) := TRow.next (by rw [UN.out]; exact hown); clear t0 t1 t2 t3 hown hgrow; obtain ⟨t0, t1, t2, t3⟩ := RK.out _ H4.out)
          | (go_at_call 21; refine (KW2.out _ H4.out).mono ?_; rintro e w5 ⟨rfl, hb5⟩; have H5' : Hid (Below w.heap.size w w5) := H4.out.trans (hb5.mono H4.out.size); have HT5 : Hid _ := HT4.out.below hb5; clear hb5))
        go_roundw
        case rel => exact ⟨k + 1, by omega, by go_num, by rw [ES.out], HT5.out, FS, H5'⟩
        case measure => simp [intOf]; omega
      · have hfk : first f (k + 1) = r := (first_succ FK.out).trans ER
        have hfl : first f len = r := (first_stays (k := k + 1) (by omega) (by rw [hfk]; exact hr)).trans hfk
        have e2 : R = r := by rw [PF2.out, if_neg (by rw [hfl]; exact hr), hfl]
        have E : Hid (R = r) := e2
        have hr2 : (r == 0) = false := beq_eq_false_iff_ne.2 hr
        clear hfk hfl e2 hr PF2 ER kw hwb
        go_wp2_with (go_at_call 20; refine (KK.out _ HB.out).mono ?_; rintro e w1 ⟨rfl, hb1⟩; have H1 : Hid (Below w.heap.size w w1) := HB.out.trans (hb1.mono hsz); clear hb1)
        go_ret
        exact ⟨by rw [E.out]; rfl, H1.out⟩
    · obtain rfl : k = len := by omega
      have HZ : Hid _ := hz
      have PF3 : Hid (R = if twiceB (unitNames U) k = true then 6 else if 250 < allWords U k then 1 else first g k) := PF2.out.trans (if_pos FK.out)
      have hsz := HB.out.size
      clear PF2 KC KW HF FK hz hkl hk
      rcases Bool.eq_false_or_eq_true (twiceB (unitNames U) k) with h1 | h1
      · have E : Hid (R = 6) := PF3.out.trans (if_pos h1)
        clear PF3 HG KP KS HCP HU HZ
        go_wp2_with (go_at_call 22; refine (KD.out _ _ _ _ _ HLM.out HT).mono ?_; rintro e w1 ⟨he, hb1⟩; rw [h1] at he; subst he; have H1 : Hid (Below w.heap.size w w1) := HB.out.trans (hb1.mono hsz); clear hb1)
        go_ret
        exact ⟨by rw [E.out]; rfl, H1.out⟩
      have PF4 : Hid (R = if 250 < allWords U k then 1 else first g k) := PF3.out.trans (if_neg (by rw [h1]; decide))
      clear PF3
      obtain ⟨S, eS⟩ : ∃ S, S = allWords U k := ⟨_, rfl⟩
      rw [← eS] at PF4 hs0 hs1 ⊢
      clear eS
      by_cases h2 : 250 < S
      · have E : Hid (R = 1) := PF4.out.trans (if_pos h2)
        clear PF4 HG KP KS HCP HU HZ
        go_wp2_with (go_at_call 22; refine (KD.out _ _ _ _ _ HLM.out HT).mono ?_; rintro e w1 ⟨he, hb1⟩; rw [h1] at he; subst he; have H1 : Hid (Below w.heap.size w w1) := HB.out.trans (hb1.mono hsz); clear hb1)
        go_ret
        exact ⟨by rw [E.out]; rfl, H1.out⟩
      have E : Hid (R = first g k) := PF4.out.trans (if_neg h2)
      have h2' : S ≤ 250 := by omega
      clear PF4 h2
      go_wp2_with (go_at_call 22; refine (KD.out _ _ _ _ _ HLM.out HT).mono ?_; rintro e w1 ⟨he, hb1⟩; rw [h1] at he; subst he; have H1 : Hid (Below w.heap.size w w1) := HB.out.trans (hb1.mono hsz); clear hb1)
      clear h1 h2' hs0 hs1 HT
      clear HLM hlI h5I H5
      go_loopw [7] (fun i wr => ∃ j : Nat, j ≤ k ∧ i = .int .i64 j ∧ Hid (first g j = 0) ∧ Hid (Below w.heap.size w wr)) (fun i _ => k - (intOf i).toNat)
      case atStart => exact ⟨0, Nat.zero_le _, rfl, (rfl : first g 0 = 0), H1⟩
      case round =>
        clear H1 HB hsz
        revert wr
        intro w0 hrel
        obtain ⟨j, hj, rfl, GJ, HB⟩ := hrel
        have hsz := HB.out.size
        by_cases hjk : j < k
        case neg =>
          obtain rfl : j = k := by omega
          clear KD KP KS HU HCP HG HZ
          go_wp2
          go_ret
          exact ⟨by rw [E.out, GJ.out]; rfl, HB.out⟩
        obtain ⟨⟨bl, off, ea, t0, t1, t2, t3⟩, hu⟩ := URow_below HB.out HU.out j hjk
        have hz := HZ.out j hjk
        obtain ⟨hvl, hal, _⟩ := NWords.sized hz
        obtain ⟨hfl, hff⟩ := small hz
        have hcp := HCP.out j hjk
        have hg := HG.out j
        clear HG HZ HCP
        obtain ⟨u, eu⟩ : ∃ u, u = U j := ⟨_, rfl⟩
        rw [← eu] at t0 t1 t2 t3 hu hz hvl hal hfl hff hcp hg
        clear eu hz
        have hjI : (j : Int) < k := by omega
        obtain ⟨wz, ez⟩ : ∃ wz, wz = w0.alloc (.cells #[.string u.name, .slice u.va u.vl u.vc, .slice u.aa u.al u.ac, .slice u.fa u.fl u.fc] 38) := ⟨_, rfl⟩
        have hbz : Below w0.heap.size w0 wz := by rw [ez]; exact below1 w0 _
        have bz : ∀ W, Below wz.heap.size wz W → W.cell? ⟨w0.heap.size, 0, none⟩ = some (.string u.name) ∧ W.cell? ⟨w0.heap.size, 1, none⟩ = some (.slice u.va u.vl u.vc) ∧ W.cell? ⟨w0.heap.size, 2, none⟩ = some (.slice u.aa u.al u.ac) ∧ W.cell? ⟨w0.heap.size, 3, none⟩ = some (.slice u.fa u.fl u.fc) := fun W hb => by
          rw [ez] at hb
          exact UnitCheck.box4 hb
        have HZ : Hid (Below w.heap.size w wz) := HB.out.trans (hbz.mono hsz)
        have hsw : w0.heap.size ≤ wz.heap.size := hbz.size
        have hwv : Texts wz u.va u.vl u.vs := texts (Strs_below hbz hu.2.1)
        have ar : ∀ W, Below wz.heap.size wz W → ∀ t, t < u.al → ∃ bl2 off2, u.aa = some ⟨bl2, off2, none⟩ ∧ W.cell? ⟨bl2, off2 + t * 2, none⟩ = some (.string (u.an t)) := fun W hb => pairs (ARow_below (hbz.trans (hb.mono hsw)) hu.2.2.1)
        have fr : ∀ W, Below wz.heap.size wz W → ∀ t, t < u.fl → (∃ bl3 off3, u.fa = some ⟨bl3, off3, none⟩ ∧ W.cell? ⟨bl3, off3 + t * 4, none⟩ = some (.string (u.fs t).name) ∧ W.cell? ⟨bl3, off3 + t * 4 + 1, none⟩ = some (.bool (u.fs t).op) ∧ W.cell? ⟨bl3, off3 + t * 4 + 2, none⟩ = some (.slice (u.fs t).pa (u.fs t).pl (u.fs t).pc) ∧ W.cell? ⟨bl3, off3 + t * 4 + 3, none⟩ = some (.slice (u.fs t).ba (u.fs t).bl (u.fs t).bc)) ∧ FuncLies W (u.fs t) := fun W hb => FRow_below (hbz.trans (hb.mono hsw)) hu.2.2.2
        have kss : ∀ (f : FuncD) W, Below wz.heap.size wz W → FuncLies W f → stmtsFault 12 f.bl f.body = 0 → _ := fun f W hb hf hs => KS.out u f W (URow_below (HZ.out.trans (hb.mono HZ.out.size)) HU.out) (UnitLies_below (hbz.trans (hb.mono hsw)) hu) hf hs
        generalize u.aa = aa at t2 bz ar kss ez
        generalize u.fa = fa at t3 bz fr kss ez
        have EZ : Hid _ := ez.symm
        have BZ : Hid _ := bz
        have US : Hid (g j = if twiceB (both u.vl u.vs u.an) (u.vl + u.al) = true ∨ twiceB (funcNames u) u.fl = true then 6 else first (fun i => funcSense k U u (u.fs i)) u.fl) := hg.trans (rfl : unitSense k U u = _)
        have FN : Hid (∀ t, funcNames u t = (u.fs t).name) := fun t => (rfl : funcNames u t = _)
        have hvI : (u.vl : Int) ≤ 8 := by omega
        have haI : (u.al : Int) ≤ 3 := by omega
        have hfI : (u.fl : Int) ≤ 8 := by omega
        have AR : Hid _ := ar
        have FR : Hid _ := fr
        have KSS : Hid _ := kss
        have HFF : Hid _ := hff
        have HCP : Hid _ := hcp
        have rg : ∀ r, g j = r → r ≠ 0 → R = r := fun r h h' => by
          have e1 : first g (j + 1) = r := (first_succ GJ.out).trans h
          rw [E.out, first_stays (k := j + 1) (by omega) (by rw [e1]; exact h'), e1]
        have RGH : Hid _ := rg
        clear hu hbz bz ar fr kss hff hcp hg HU KS E rg ez
        rw [ea] at *
        go_wp2_with (at_builtin; rw [EZ.out]; refine wpList_copied rfl _ (.tmp 62) rfl rfl u.va u.vl u.vc u.vs rfl hwv hvl wz.heap.size (Nat.le_refl _) ?_; intro v9 w2 hown hgrow; have H2 : Hid (Below wz.heap.size wz w2) := (Below.refl wz.heap.size wz).grown hgrow (Nat.le_refl _) (by simp); have HT2 : Hid _ := hown; clear hown hgrow)
        clear t0 t1 t2 t3 hwv
        go_loopw [9, 10] (fun v i wr => ∃ t : Nat, t ≤ u.al ∧ i = .int .i64 t ∧ TRow wr wz.heap.size v (u.vl + t) (both u.vl u.vs u.an) ∧ Hid (Below wz.heap.size wz wr)) (fun _ i _ => u.al - (intOf i).toNat)
        case atStart => exact ⟨0, Nat.zero_le _, rfl, HT2.out.congr fun i hi => both_lo hi, H2⟩
        case round =>
          clear HT2 H2
          revert wr
          intro w3 hrel
          obtain ⟨t, ht, rfl, HT, H3⟩ := hrel
          obtain ⟨q0, q1, q2, q3⟩ := BZ.out _ H3.out
          have hs3 := H3.out.size
          by_cases htl : t < u.al
          · obtain ⟨bl2, off2, e2, c0⟩ := AR.out _ H3.out t htl
            have htI : (t : Int) < u.al := by omega
            have BH : Hid (both u.vl u.vs u.an (u.vl + t) = u.an t) := both_hi _ _ _ _
            generalize u.an t = nm at c0 BH
            clear AR FR KSS HFF HCP RGH US FN
            subst e2
            go_wp2_with (at_builtin; refine wpList_append_own _ rfl _ _ 34 rfl wz.heap.size 9 i0 (.string ⟨#[]⟩) 1 16 Try.underlying34 hi hz0 hz1 hz2 rfl (by decide) _ _ _ rfl (HT.out.alloc _) _ 1 1 [.string nm] rfl rfl one_news one_one (by unfold maxLen; omega) (by omega) (by simp; omega) ?_; intro v1 w4 hown hgrow _; have H4 : Hid (Below wz.heap.size wz w4) := (H3.out.alloc hs3 _).grown hgrow (by simp; omega) (fun g hg => HT.base hg); have HT4 : Hid (TRow w4 wz.heap.size v1 (u.vl + t + 1) (both u.vl u.vs u.an)) := TRow.next (by rw [BH.out]; exact hown); clear hown hgrow)
            go_roundw
            case rel => exact ⟨t + 1, by omega, by go_num, HT4.out, H4⟩
            case measure => simp [intOf]; omega
          obtain rfl : t = u.al := by omega
          clear AR htl ht
          go_wp2
          go_loopw [11, 12] (fun v i wr => ∃ t : Nat, t ≤ u.fl ∧ i = .int .i64 t ∧ TRow wr w3.heap.size v t (funcNames u) ∧ Hid (Below w3.heap.size w3 wr)) (fun _ i _ => u.fl - (intOf i).toNat)
          case atStart => exact ⟨0, Nat.zero_le _, rfl, TRow.nil _ _ _, Below.refl _ _⟩
          case round =>
            clear q0 q1 q2 q3
            revert wr
            intro w5 hrel
            obtain ⟨t, ht, rfl, HTF, H5⟩ := hrel
            have hs5 := H5.out.size
            have HZ5 : Hid (Below wz.heap.size wz w5) := H3.out.trans (H5.out.mono hs3)
            obtain ⟨q0, q1, q2, q3⟩ := BZ.out _ HZ5.out
            by_cases htl : t < u.fl
            · obtain ⟨⟨bl3, off3, e3, c0, _⟩, _⟩ := FR.out _ HZ5.out t htl
              have htI : (t : Int) < u.fl := by omega
              have BH : Hid (funcNames u t = (u.fs t).name) := FN.out t
              generalize (u.fs t).name = nm at c0 BH
              clear FR KSS HFF HCP RGH US FN
              subst e3
              go_wp2_with (at_builtin; refine wpList_append_own _ rfl _ _ 34 rfl w3.heap.size 9 i0 (.string ⟨#[]⟩) 1 16 Try.underlying34 hi hz0 hz1 hz2 rfl (by decide) _ _ _ rfl (HTF.out.alloc _) _ 1 1 [.string nm] rfl rfl one_news one_one (by unfold maxLen; omega) (by omega) (by simp; omega) ?_; intro v1 w6 hown hgrow _; have H6 : Hid (Below w3.heap.size w3 w6) := (H5.out.alloc hs5 _).grown hgrow (by simp; omega) (fun g hg => HTF.base hg); have HT6 : Hid (TRow w6 w3.heap.size v1 (t + 1) (funcNames u)) := TRow.next (by rw [BH.out]; exact hown); clear hown hgrow)
              go_roundw
              case rel => exact ⟨t + 1, by omega, by go_num, HT6.out, H6⟩
              case measure => simp [intOf]; omega
            obtain rfl : t = u.fl := by omega
            have HTO : Hid _ := HT.below H5.out
            have HTG : Hid _ := HTF
            have HM1 : Hid (u.vl + u.al ≤ maxLen) := (by unfold maxLen; omega : u.vl + u.al ≤ maxLen)
            have HM2 : Hid (u.fl ≤ maxLen) := (by unfold maxLen; omega : u.fl ≤ maxLen)
            have HZW : Hid (Below w.heap.size w w5) := HZ.out.trans (HZ5.out.mono HZ.out.size)
            clear htl ht HT FN HTF
            rcases Bool.eq_false_or_eq_true (twiceB (both u.vl u.vs u.an) (u.vl + u.al)) with h1 | h1
            · have e6 : R = 6 := RGH.out 6 (US.out.trans (if_pos (.inl h1))) (by decide)
              have E6 : Hid (R = 6) := e6
              clear e6 RGH US FR KSS HFF HCP
              go_wp2_with (go_at_call 22; refine (KD.out _ _ _ _ _ HM1.out HTO.out).mono ?_; rintro e w7 ⟨he, hb7⟩; rw [h1] at he; subst he; have H7 : Hid (Below w.heap.size w w7) := HZW.out.trans (hb7.mono HZW.out.size); clear hb7)
              go_ret
              exact ⟨by rw [E6.out]; rfl, H7.out⟩
            rcases Bool.eq_false_or_eq_true (twiceB (funcNames u) u.fl) with h2 | h2
            · have e6 : R = 6 := RGH.out 6 (US.out.trans (if_pos (.inr h2))) (by decide)
              have E6 : Hid (R = 6) := e6
              clear e6 RGH US FR KSS HFF HCP
              go_wp2_with (first
                | (go_at_call 22; refine (KD.out _ _ _ _ _ HM2.out HTG7.out).mono ?_; rintro e w8 ⟨he, hb8⟩; rw [h2] at he; subst he; have H8 : Hid (Below w.heap.size w w8) := H7.out.trans (hb8.mono H7.out.size); clear hb8)
                | (go_at_call 22; refine (KD.out _ _ _ _ _ HM1.out HTO.out).mono ?_; rintro e w7 ⟨he, hb7⟩; rw [h1] at he; subst he; have H7 : Hid (Below w.heap.size w w7) := HZW.out.trans (hb7.mono HZW.out.size); have HTG7 : Hid _ := HTG.out.below hb7; clear hb7))
              go_ret
              exact ⟨by rw [E6.out]; rfl, H8.out⟩
            have us2 : g j = first (fun i => funcSense k U u (u.fs i)) u.fl := US.out.trans (if_neg (by rw [h1, h2]; decide))
            obtain ⟨G, eG⟩ : ∃ G : Nat → Int, G = fun i => funcSense k U u (u.fs i) := ⟨_, rfl⟩
            rw [← eG] at us2
            have US2 : Hid (g j = first G u.fl) := us2
            have EG : Hid (∀ t, G t = if twiceB (u.fs t).ps (u.fs t).pl = true then 6 else stmtsSense k U u (u.fs t) 12 (u.fs t).bl (u.fs t).body) := fun t => by rw [eG]; exact (rfl : funcSense k U u (u.fs t) = _)
            clear us2 eG US
            go_wp2_with (first
              | (go_at_call 22; refine (KD.out _ _ _ _ _ HM2.out HTG7.out).mono ?_; rintro e w8 ⟨he, hb8⟩; rw [h2] at he; subst he; have H8 : Hid (Below wz.heap.size wz w8) := H7.out.trans (hb8.mono H7.out.size); clear hb8)
              | (go_at_call 22; refine (KD.out _ _ _ _ _ HM1.out HTO.out).mono ?_; rintro e w7 ⟨he, hb7⟩; rw [h1] at he; subst he; have H7 : Hid (Below wz.heap.size wz w7) := HZ5.out.trans (hb7.mono HZ5.out.size); have HTG7 : Hid _ := HTG.out.below hb7; clear hb7))
            clear h1 h2 HTO HTG HTG7 q0 q1 q2 q3 HM1 HM2 KD H7 H5 HZ5 HZW hs5 H3 hs3
            go_loopw [13] (fun i wr => ∃ t : Nat, t ≤ u.fl ∧ i = .int .i64 t ∧ Hid (first G t = 0) ∧ Hid (Below wz.heap.size wz wr)) (fun i _ => u.fl - (intOf i).toNat)
            case atStart => exact ⟨0, Nat.zero_le _, rfl, (rfl : first G 0 = 0), H8⟩
            case round =>
              clear H8
              revert wr
              intro wq hrel
              obtain ⟨t, ht, rfl, GT, HQ⟩ := hrel
              obtain ⟨q0, q1, q2, q3⟩ := BZ.out _ HQ.out
              have HQW : Hid (Below w.heap.size w wq) := HZ.out.trans (HQ.out.mono HZ.out.size)
              by_cases htl : t < u.fl
              · obtain ⟨⟨bl3, off3, e3, c0, c1, c2, c3⟩, hfn⟩ := FR.out _ HQ.out t htl
                have fcs : ∀ W, Below wz.heap.size wz W → _ := fun W hb => (FR.out W hb t htl).2
                have htI : (t : Int) < u.fl := by omega
                obtain ⟨hpl, hsf⟩ := HFF.out t htl
                obtain ⟨hc1, hc2⟩ := HCP.out t htl
                have eg := EG.out t
                obtain ⟨f, ef⟩ : ∃ f, f = u.fs t := ⟨_, rfl⟩
                rw [← ef] at c0 c1 c2 c3 hfn fcs hpl hsf hc1 hc2 eg
                have rq : ∀ W, Below wz.heap.size wz W → W.cell? ⟨bl3, off3 + t * 4, none⟩ = some (.string f.name) ∧ W.cell? ⟨bl3, off3 + t * 4 + 1, none⟩ = some (.bool f.op) ∧ W.cell? ⟨bl3, off3 + t * 4 + 2, none⟩ = some (.slice f.pa f.pl f.pc) ∧ W.cell? ⟨bl3, off3 + t * 4 + 3, none⟩ = some (.slice f.ba f.bl f.bc) := fun W hb => by
                  obtain ⟨⟨bl', off', e', d⟩, _⟩ := FR.out W hb t htl
                  rw [e3] at e'
                  obtain ⟨rfl, rfl⟩ : bl3 = bl' ∧ off3 = off' := by simpa using e'
                  rw [ef]
                  exact d
                clear ef HFF HCP EG FR
                have kpp : ∀ W, Below wz.heap.size wz W → _ := fun W hb => KP.out W f (by unfold maxLen; omega) hc1 hc2 (texts (fcs W hb).2.2.2.1)
                have kst : ∀ W, Below wz.heap.size wz W → _ := fun W hb => KSS.out f W hb (fcs W hb) hsf
                generalize stmtsSense k U u f 12 f.bl f.body = r at kst eg
                have KPP : Hid _ := kpp
                have KST : Hid _ := kst
                have RQ : Hid _ := rq
                clear kpp kst rq fcs hfn hpl hsf hc1 hc2 KP KSS
                subst e3
                rcases Bool.eq_false_or_eq_true (twiceB f.ps f.pl) with h3 | h3
                · have e6 : R = 6 := RGH.out 6 (by rw [US2.out, first_stays (k := t + 1) (by omega) (by rw [first_succ GT.out, eg, if_pos h3]; decide), first_succ GT.out, eg, if_pos h3]) (by decide)
                  have E6 : Hid (R = 6) := e6
                  clear e6 RGH US2 eg KST
                  go_wp2_with (go_at_call 22; refine (KPP.out _ HQ.out).mono ?_; rintro e w7 ⟨he, hb7⟩; rw [h3] at he; subst he; have H7 : Hid (Below w.heap.size w w7) := HQW.out.trans (hb7.mono HQW.out.size); clear hb7)
                  go_ret
                  exact ⟨by rw [E6.out]; rfl, H7.out⟩
                · have eg2 : G t = r := by rw [eg, if_neg (by rw [h3]; decide)]
                  clear eg
                  go_wp2_with (go_at_call 22; refine (KPP.out _ HQ.out).mono ?_; rintro e w7 ⟨he, hb7⟩; rw [h3] at he; subst he; have H7 : Hid (Below wz.heap.size wz w7) := HQ.out.trans (hb7.mono HQ.out.size); clear hb7)
                  have bs : ∀ W, Below wz.heap.size wz W → (W.cell? ⟨w0.heap.size, 0, none⟩ = some (.string u.name) ∧ W.cell? ⟨w0.heap.size, 1, none⟩ = some (.slice u.va u.vl u.vc) ∧ W.cell? ⟨w0.heap.size, 2, none⟩ = some (.slice aa u.al u.ac) ∧ W.cell? ⟨w0.heap.size, 3, none⟩ = some (.slice (some ⟨bl3, off3, none⟩) u.fl u.fc)) ∧ (W.cell? ⟨bl3, off3 + t * 4, none⟩ = some (.string f.name) ∧ W.cell? ⟨bl3, off3 + t * 4 + 1, none⟩ = some (.bool f.op) ∧ W.cell? ⟨bl3, off3 + t * 4 + 2, none⟩ = some (.slice f.pa f.pl f.pc) ∧ W.cell? ⟨bl3, off3 + t * 4 + 3, none⟩ = some (.slice f.ba f.bl f.bc)) := fun W hb => ⟨BZ.out W hb, RQ.out W hb⟩
                  have BS : Hid _ := bs
                  clear h3 bs q0 q1 q2 q3 c0 c1 c2 c3 KPP
                  go_region_held3 (fun W => (W.cell? ⟨w0.heap.size, 0, none⟩ = some (.string u.name) ∧ W.cell? ⟨w0.heap.size, 1, none⟩ = some (.slice u.va u.vl u.vc) ∧ W.cell? ⟨w0.heap.size, 2, none⟩ = some (.slice aa u.al u.ac) ∧ W.cell? ⟨w0.heap.size, 3, none⟩ = some (.slice (some ⟨bl3, off3, none⟩) u.fl u.fc)) ∧ (W.cell? ⟨bl3, off3 + t * 4, none⟩ = some (.string f.name) ∧ W.cell? ⟨bl3, off3 + t * 4 + 1, none⟩ = some (.bool f.op) ∧ W.cell? ⟨bl3, off3 + t * 4 + 2, none⟩ = some (.slice f.pa f.pl f.pc) ∧ W.cell? ⟨bl3, off3 + t * 4 + 3, none⟩ = some (.slice f.ba f.bl f.bc)))
                    (first | (with_reducible exact BS.out _ H7.out.drew) | (with_reducible exact BS.out _ H9.out))
                    (first
                    | (go_at_call 23; refine (KST.out _ H7.out.drew).mono ?_; rintro e w9 ⟨rfl, hb9⟩; have H9 : Hid (Below wz.heap.size wz w9) := H7.out.drew.trans (hb9.mono H7.out.size); clear hb9)
                    | fail)
                  all_goals
                    by_cases hr : r = 0
                    · subst hr
                      go_wp2
                      go_roundw
                      case rel => exact ⟨t + 1, by omega, by go_num, (first_succ GT.out).trans eg2, H9⟩
                      case measure => simp [intOf]; omega
                    · have er : R = r := RGH.out r (by rw [US2.out, first_stays (k := t + 1) (by omega) (by rw [first_succ GT.out, eg2]; exact hr), first_succ GT.out, eg2]) hr
                      have ER : Hid (R = r) := er
                      have hr2 : (r == 0) = false := beq_eq_false_iff_ne.2 hr
                      clear er hr eg2 RGH US2
                      go_wp2
                      go_ret
                      exact ⟨by rw [ER.out]; rfl, HZ.out.trans (H9.out.mono HZ.out.size)⟩
              · obtain rfl : t = u.fl := by omega
                clear FR HFF HCP EG KP KSS
                have gj : first g (j + 1) = 0 := (first_succ GJ.out).trans (US2.out.trans GT.out)
                have GJ1 : Hid (first g (j + 1) = 0) := gj
                clear gj US2 RGH
                go_wp2
                go_roundw
                case rel => exact ⟨j + 1, by omega, by go_num, GJ1, HQW⟩
                case measure => simp [intOf]; omega
end Go.Proofs.Ytalnfnkpemojhaa.NRefProg
