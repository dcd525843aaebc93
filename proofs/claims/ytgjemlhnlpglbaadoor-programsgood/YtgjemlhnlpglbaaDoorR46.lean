/-
  WHAT names.checkUnit GIVES, of a unit that may be: whether its names, and all that is named in it, are there, each once (P7.2).
  Conditions: the units lie there; the unit may be.
-/
import Derived.Test.YtgjemlhnlpglbaaDoorR33
import Derived.Test.YtgjemlhnlpglbaaDoorR35
import Derived.Test.YtgjemlhnlpglbaaDoorR45
namespace Go.Proofs.YtgjemlhnlpglbaaDoor.NCheckUnit
open Go.RowKit NPlace NPlain NUnits NLists Go.Proofs.YtgjemlhnlpglbaaDoor.Ident Trees Forms NSense NScope NAsk NBoth NNamed NWords UnitCheck

/-- a unit that may be is small -/
theorem small {u : UnitD} (h : unitFault u = 0) : u.fl ≤ 8 ∧ ∀ k, k < u.fl → (u.fs k).pl ≤ 4 ∧ stmtsFault 12 (u.fs k).bl (u.fs k).body = 0 := by
  unfold unitFault at h
  split at h
  · rename_i h0
    split at h
    · rename_i h1
      refine ⟨?_, fun k hk => ?_⟩
      · unfold frontFault at h0
        split at h0
        · split at h0
          · rename_i h2
            exact h2.2.2
          · cases h0
        · cases h0
      · have h2 := first_zero h1 k hk
        refine ⟨?_, funcFault_zero h2⟩
        unfold funcFault at h2
        split at h2
        · split at h2
          · assumption
          · cases h2
        · cases h2
    · contradiction
  · contradiction

set_option maxHeartbeats 4000000 in
theorem checkUnit (w : World) (len pcap : Nat) (pa : Option Addr) (U : Nat → UnitD) (u : UnitD) (hl : len ≤ maxLen) (hU : URow w pa len U) (hu : UnitLies w u) (hz : unitFault u = 0) :
    Calls Tryd.prog 19 #[.slice pa len pcap, .agg #[.string u.name, .slice u.va u.vl u.vc, .slice u.aa u.al u.ac, .slice u.fa u.fl u.fc]] w fun e w' => e = .returned (.int .i64 (unitSense len U u)) ∧ Below w.heap.size w w' := by
  obtain ⟨hvl, hal, _⟩ := sized hz
  obtain ⟨hfl, hff⟩ := small hz
  obtain ⟨n, en⟩ : ∃ n, n = u.vl + u.al := ⟨_, rfl⟩
  have kv : ∀ W, Below w.heap.size w W → _ := fun W hb => vars W u.vl u.vc u.va u.vs hu.1.2.1 (texts (Strs_below hb hu.2.1)) (.string u.name) (.slice u.aa u.al u.ac) (.slice u.fa u.fl u.fc)
  have ka : ∀ W, Below w.heap.size w W → _ := fun W hb => arrays W u.al u.ac u.aa u.an hu.1.2.2.1 (pairs (ARow_below hb hu.2.2.1)) (.string u.name) (.slice u.va u.vl u.vc) (.slice u.fa u.fl u.fc)
  have kf : ∀ W, Below w.heap.size w W → _ := fun W hb => funcs W u.fl u.fc u.fa (funcNames u) hu.1.2.2.2 (heads (FRow_below hb hu.2.2.2)) (.string u.name) (.slice u.va u.vl u.vc) (.slice u.aa u.al u.ac)
  have kb : ∀ W ka kb ca cb, Tells W ka ca u.vl u.vs → Tells W kb cb u.al u.an → Calls Tryd.prog 40 #[.agg #[.int .i64 u.vl, .func (.func ka) #[] ca], .agg #[.int .i64 u.al, .func (.func kb) #[] cb]] W fun e w' => Below W.heap.size W w' ∧ ∃ caps, e = .returned (.agg #[.int .i64 (n : Nat), .func (.func 57) #[] caps]) ∧ Tells w' 57 caps n (both u.vl u.vs u.an) := by
    rw [en]
    exact fun W ka kb ca cb h h' => both_ W u.vl u.al ka kb ca cb u.vs u.an (by unfold maxLen; omega) h h'
  have kt : ∀ W k caps n z, n ≤ maxLen → Tells W k caps n z → _ := fun W k caps n z h t => twice W k n caps z h t
  have US : Hid (unitSense len U u = if twiceB (both u.vl u.vs u.an) n = true ∨ twiceB (funcNames u) u.fl = true then 6 else first (fun k => funcSense len U u (u.fs k)) u.fl) := by rw [en]; exact (rfl : unitSense len U u = _)
  have hn : n ≤ maxLen := by rw [en]; unfold maxLen; omega
  have hfm : u.fl ≤ maxLen := by unfold maxLen; omega
  obtain ⟨w0, ew⟩ : ∃ w0, w0 = w.alloc (.cells #[.string u.name, .slice u.va u.vl u.vc, .slice u.aa u.al u.ac, .slice u.fa u.fl u.fc] 41) := ⟨_, rfl⟩
  have hb0 : Below w.heap.size w w0 := by rw [ew]; exact below1 w _
  have bs : ∀ W, Below w0.heap.size w0 W → W.cell? ⟨w.heap.size, 0, none⟩ = some (.string u.name) ∧ W.cell? ⟨w.heap.size, 1, none⟩ = some (.slice u.va u.vl u.vc) ∧ W.cell? ⟨w.heap.size, 2, none⟩ = some (.slice u.aa u.al u.ac) ∧ W.cell? ⟨w.heap.size, 3, none⟩ = some (.slice u.fa u.fl u.fc) := by
    rw [ew]
    exact fun W hb => UnitCheck.box4 hb
  have EW : Hid (w.alloc (.cells #[.string u.name, .slice u.va u.vl u.vc, .slice u.aa u.al u.ac, .slice u.fa u.fl u.fc] 41) = w0) := ew.symm
  have KV : Hid _ := kv
  have KA : Hid _ := ka
  have KF : Hid _ := kf
  have KB : Hid _ := kb
  have KT : Hid _ := kt
  have UP : Hid (Below w.heap.size w w0) := hb0
  have BS : Hid _ := bs
  have HN : Hid (n ≤ maxLen) := hn
  have HFM : Hid (u.fl ≤ maxLen) := hfm
  have HVL : Hid (u.vl ≤ 8) := hvl
  have HFF : Hid _ := hff
  have HU : Hid (URow w pa len U) := hU
  have HU1 : Hid (UnitLies w u) := hu
  have HL : Hid (len ≤ maxLen) := hl
  have hfI : (u.fl : Int) ≤ 8 := by omega
  clear kv ka kf kb kt hb0 bs hn hfm hvl hal hff hU hu hl ew en hz hfl
  rcases Bool.eq_false_or_eq_true (twiceB (both u.vl u.vs u.an) n) with h1 | h1
  · have E : Hid (unitSense len U u = 6) := US.out.trans (if_pos (.inl h1))
    clear US HFF HU HU1
    go_enter Tryd.func19, Tryd.ntmps19
    go_wp2
    rw [EW.out]
    obtain ⟨q0, q1, q2, q3⟩ := BS.out _ (Below.refl w0.heap.size w0)
    go_region_law (first
      | (go_simp; go_at_call 41; refine (KV.out _ UP.out.drew).mono ?_; rintro e w9 ⟨hb9, b9, rfl, ht9⟩; have H9 : Hid (Below w0.heap.size w0 w9) := (Below.refl _ w0).drew.trans hb9; have T9 : Hid _ := ht9; clear hb9 ht9; clear q0 q1 q2 q3; obtain ⟨q0, q1, q2, q3⟩ := BS.out _ H9.out)
      | (go_simp; go_at_call 42; refine (KA.out _ (UP.out.trans (H9.out.mono UP.out.size))).mono ?_; rintro e w11 ⟨hb11, b11, rfl, ht11⟩; have T9b : Hid _ := T9.out.below hb11; have H11 : Hid (Below w0.heap.size w0 w11) := H9.out.trans (hb11.mono H9.out.size); have T11 : Hid _ := ht11; clear hb11 ht11; clear q0 q1 q2 q3; obtain ⟨q0, q1, q2, q3⟩ := BS.out _ H11.out)
      | (go_simp; go_at_call 40; refine (KB.out _ _ _ _ _ T9b.out T11.out).mono ?_; rintro e w12 ⟨hb12, caps, rfl, ht12⟩; have H12 : Hid (Below w0.heap.size w0 w12) := H11.out.trans (hb12.mono H11.out.size); have T12 : Hid _ := ht12; clear hb12 ht12; clear q0 q1 q2 q3; obtain ⟨q0, q1, q2, q3⟩ := BS.out _ H12.out)
      | (go_simp; go_at_call 17; refine (KT.out _ _ _ _ _ HN.out T12.out).mono ?_; rintro e w13 ⟨he, hb13⟩; rw [h1] at he; subst he; have H13 : Hid (Below w0.heap.size w0 w13) := H12.out.trans (hb13.mono H12.out.size); clear hb13; clear q0 q1 q2 q3; obtain ⟨q0, q1, q2, q3⟩ := BS.out _ H13.out)
      | fail)
    all_goals
      go_wp2
      go_ret
      exact ⟨by rw [E.out]; rfl, UP.out.trans (H13.out.mono UP.out.size)⟩
  rcases Bool.eq_false_or_eq_true (twiceB (funcNames u) u.fl) with h2 | h2
  · have E : Hid (unitSense len U u = 6) := US.out.trans (if_pos (.inr h2))
    clear US HFF HU HU1
    go_enter Tryd.func19, Tryd.ntmps19
    go_wp2
    rw [EW.out]
    go_region_held3 (fun W => W.cell? ⟨w.heap.size, 0, none⟩ = some (.string u.name) ∧ W.cell? ⟨w.heap.size, 1, none⟩ = some (.slice u.va u.vl u.vc) ∧ W.cell? ⟨w.heap.size, 2, none⟩ = some (.slice u.aa u.al u.ac) ∧ W.cell? ⟨w.heap.size, 3, none⟩ = some (.slice u.fa u.fl u.fc))
      (first | (with_reducible exact BS.out _ (Below.refl _ _).drew) | (with_reducible exact BS.out _ H17.out) | (with_reducible exact BS.out _ H16.out) | (with_reducible exact BS.out _ H13.out) | (with_reducible exact BS.out _ H12.out) | (with_reducible exact BS.out _ H11.out) | (with_reducible exact BS.out _ H9.out))
      (first
      | (go_at_call 41; refine (KV.out _ UP.out.drew).mono ?_; rintro e w9 ⟨hb9, b9, rfl, ht9⟩; have H9 : Hid (Below w0.heap.size w0 w9) := (Below.refl _ w0).drew.trans hb9; have T9 : Hid _ := ht9; clear hb9 ht9)
      | (go_at_call 42; refine (KA.out _ (UP.out.trans (H9.out.mono UP.out.size))).mono ?_; rintro e w11 ⟨hb11, b11, rfl, ht11⟩; have T9b : Hid _ := T9.out.below hb11; have H11 : Hid (Below w0.heap.size w0 w11) := H9.out.trans (hb11.mono H9.out.size); have T11 : Hid _ := ht11; clear hb11 ht11)
      | (go_at_call 40; refine (KB.out _ _ _ _ _ T9b.out T11.out).mono ?_; rintro e w12 ⟨hb12, caps, rfl, ht12⟩; have H12 : Hid (Below w0.heap.size w0 w12) := H11.out.trans (hb12.mono H11.out.size); have T12 : Hid _ := ht12; clear hb12 ht12)
      | (go_at_call 43; refine (KF.out _ (UP.out.trans (H13.out.mono UP.out.size))).mono ?_; rintro e w16 ⟨hb16, b16, rfl, ht16⟩; have H16 : Hid (Below w0.heap.size w0 w16) := H13.out.trans (hb16.mono H13.out.size); have T16 : Hid _ := ht16; clear hb16 ht16)
      | (go_at_call 17; refine (KT.out _ _ _ _ _ HFM.out T16.out).mono ?_; rintro e w17 ⟨he, hb17⟩; rw [h2] at he; subst he; have H17 : Hid (Below w0.heap.size w0 w17) := H16.out.trans (hb17.mono H16.out.size); clear hb17)
      | (go_at_call 17; refine (KT.out _ _ _ _ _ HN.out T12.out).mono ?_; rintro e w13 ⟨he, hb13⟩; rw [h1] at he; subst he; have H13 : Hid (Below w0.heap.size w0 w13) := H12.out.trans (hb13.mono H12.out.size); clear hb13)
      | fail)
    all_goals
      go_wp2
      go_ret
      exact ⟨by rw [E.out]; rfl, UP.out.trans (H17.out.mono UP.out.size)⟩
  have E : Hid (unitSense len U u = first (fun k => funcSense len U u (u.fs k)) u.fl) := US.out.trans (if_neg (by rw [h1, h2]; decide))
  obtain ⟨R, eR⟩ : ∃ R, R = unitSense len U u := ⟨_, rfl⟩
  rw [← eR] at E ⊢
  clear US eR
  obtain ⟨G, eG⟩ : ∃ G : Nat → Int, G = fun k => funcSense len U u (u.fs k) := ⟨_, rfl⟩
  rw [← eG] at E
  have EG : Hid (∀ k, G k = if twiceB (u.fs k).ps (u.fs k).pl = true then 6 else stmtsSense len U u (u.fs k) 12 (u.fs k).bl (u.fs k).body) := fun k => by rw [eG]; exact (rfl : funcSense len U u (u.fs k) = _)
  clear eG
  go_enter Tryd.func19, Tryd.ntmps19
  go_wp2
  rw [EW.out]
  go_region_held3 (fun W => W.cell? ⟨w.heap.size, 0, none⟩ = some (.string u.name) ∧ W.cell? ⟨w.heap.size, 1, none⟩ = some (.slice u.va u.vl u.vc) ∧ W.cell? ⟨w.heap.size, 2, none⟩ = some (.slice u.aa u.al u.ac) ∧ W.cell? ⟨w.heap.size, 3, none⟩ = some (.slice u.fa u.fl u.fc))
    (first | (with_reducible exact BS.out _ (Below.refl _ _).drew) | (with_reducible exact BS.out _ H17.out) | (with_reducible exact BS.out _ H16.out) | (with_reducible exact BS.out _ H13.out) | (with_reducible exact BS.out _ H12.out) | (with_reducible exact BS.out _ H11.out) | (with_reducible exact BS.out _ H9.out))
    (first
      | (go_at_call 41; refine (KV.out _ UP.out.drew).mono ?_; rintro e w9 ⟨hb9, b9, rfl, ht9⟩; have H9 : Hid (Below w0.heap.size w0 w9) := (Below.refl _ w0).drew.trans hb9; have T9 : Hid _ := ht9; clear hb9 ht9)
      | (go_at_call 42; refine (KA.out _ (UP.out.trans (H9.out.mono UP.out.size))).mono ?_; rintro e w11 ⟨hb11, b11, rfl, ht11⟩; have T9b : Hid _ := T9.out.below hb11; have H11 : Hid (Below w0.heap.size w0 w11) := H9.out.trans (hb11.mono H9.out.size); have T11 : Hid _ := ht11; clear hb11 ht11)
      | (go_at_call 40; refine (KB.out _ _ _ _ _ T9b.out T11.out).mono ?_; rintro e w12 ⟨hb12, caps, rfl, ht12⟩; have H12 : Hid (Below w0.heap.size w0 w12) := H11.out.trans (hb12.mono H11.out.size); have T12 : Hid _ := ht12; clear hb12 ht12)
      | (go_at_call 43; refine (KF.out _ (UP.out.trans (H13.out.mono UP.out.size))).mono ?_; rintro e w16 ⟨hb16, b16, rfl, ht16⟩; have H16 : Hid (Below w0.heap.size w0 w16) := H13.out.trans (hb16.mono H13.out.size); have T16 : Hid _ := ht16; clear hb16 ht16)
      | (go_at_call 17; refine (KT.out _ _ _ _ _ HFM.out T16.out).mono ?_; rintro e w17 ⟨he, hb17⟩; rw [h2] at he; subst he; have H17 : Hid (Below w0.heap.size w0 w17) := H16.out.trans (hb17.mono H16.out.size); clear hb17)
      | (go_at_call 17; refine (KT.out _ _ _ _ _ HN.out T12.out).mono ?_; rintro e w13 ⟨he, hb13⟩; rw [h1] at he; subst he; have H13 : Hid (Below w0.heap.size w0 w13) := H12.out.trans (hb13.mono H12.out.size); clear hb13)
      | fail)
  all_goals
    obtain ⟨q0, q1, q2, q3⟩ := BS.out _ H17.out
    clear h1 h2 T9 T9b T11 T12 T16
    go_wp2
    clear q0 q1 q2 q3
    go_loopw [22] (fun i wr => ∃ k : Nat, k ≤ u.fl ∧ i = .int .i64 k ∧ first G k = 0 ∧ Below w0.heap.size w0 wr) (fun i _ => u.fl - (intOf i).toNat)
    case atStart => exact ⟨0, Nat.zero_le _, rfl, rfl, H17.out⟩
    case round =>
      obtain ⟨k, hk, rfl, hg, hbel⟩ := hrel
      have HG : Hid (first G k = 0) := hg
      have HB : Hid _ := hbel
      have up := UP.out.trans (hbel.mono UP.out.size)
      have HUP : Hid _ := up
      clear hg
      by_cases hkl : k < u.fl
      · obtain ⟨⟨bl, off, ea, t0, t1, t2, t3⟩, hfn⟩ := FRow_below up HU1.out.2.2.2 k hkl
        obtain ⟨hpl, hsf⟩ := HFF.out k hkl
        have eg := EG.out k
        obtain ⟨f, ef⟩ : ∃ f, f = u.fs k := ⟨_, rfl⟩
        rw [← ef] at t0 t1 t2 t3 hfn hpl hsf eg
        clear ef HFF EG
        have hkI : (k : Int) < u.fl := by omega
        rw [ea] at *
        obtain ⟨wz, ez⟩ : ∃ wz, wz = wr.alloc (.cells #[.string f.name, .bool f.op, .slice f.pa f.pl f.pc, .slice f.ba f.bl f.bc] 37) := ⟨_, rfl⟩
        have hbz : Below wr.heap.size wr wz := by rw [ez]; exact below1 wr _
        have bz : ∀ W, Below wz.heap.size wz W → (W.cell? ⟨w.heap.size, 0, none⟩ = some (.string u.name) ∧ W.cell? ⟨w.heap.size, 1, none⟩ = some (.slice u.va u.vl u.vc) ∧ W.cell? ⟨w.heap.size, 2, none⟩ = some (.slice u.aa u.al u.ac) ∧ W.cell? ⟨w.heap.size, 3, none⟩ = some (.slice u.fa u.fl u.fc)) ∧ (W.cell? ⟨wr.heap.size, 0, none⟩ = some (.string f.name) ∧ W.cell? ⟨wr.heap.size, 1, none⟩ = some (.bool f.op) ∧ W.cell? ⟨wr.heap.size, 2, none⟩ = some (.slice f.pa f.pl f.pc) ∧ W.cell? ⟨wr.heap.size, 3, none⟩ = some (.slice f.ba f.bl f.bc)) := fun W hb => by
          refine ⟨BS.out W (HB.out.trans ((hbz.trans (hb.mono hbz.size)).mono HB.out.size)), ?_⟩
          rw [ez] at hb
          exact UnitCheck.box4 hb
        have HZ : Hid (Below w.heap.size w wz) := HUP.out.trans (hbz.mono HUP.out.size)
        have HZ0 : Hid (Below w0.heap.size w0 wz) := HB.out.trans (hbz.mono HB.out.size)
        have EZ : Hid (wr.alloc (.cells #[.string f.name, .bool f.op, .slice f.pa f.pl f.pc, .slice f.ba f.bl f.bc] 37) = wz) := ez.symm
        have BZ : Hid _ := bz
        have kp : ∀ W, Below wr.heap.size wr W → _ := fun W hb => params W f.pl f.pc f.pa f.ps hfn.2.1 (texts (Strs_below hb hfn.2.2.2.1)) (.string f.name) (.bool f.op) (.slice f.ba f.bl f.bc)
        have kso : ∀ W, Below wr.heap.size wr W → _ := fun W hb => NScopeOf.scopeOf W len pcap pa U u f HL.out (URow_below (HUP.out.trans (hb.mono HUP.out.size)) HU.out) (UnitLies_below (HUP.out.trans (hb.mono HUP.out.size)) HU1.out) (FuncLies_below hb hfn) (by have := HVL.out; unfold maxLen; omega)
        have kst : ∀ B la ar pu pp W, Scope B la ar pu pp len U u f → Below wr.heap.size wr W → Below B.heap.size B W → _ := fun B la ar pu pp W hS hb hb' => NStmts.stmts hS 12 W f.ba f.bl f.bc f.body hb' hfn.2.2.1 (SRow_below hb hfn.2.2.2.2) hsf
        generalize stmtsSense len U u f 12 f.bl f.body = r at kst eg
        have HPL : Hid (f.pl ≤ maxLen) := hfn.2.1
        have HBZ : Hid (Below wr.heap.size wr wz) := hbz
        have KP : Hid _ := kp
        have KSO : Hid _ := kso
        have KST : Hid _ := kst
        clear kp kso kst hfn hpl hsf hbz ez bz up hbel
        rcases Bool.eq_false_or_eq_true (twiceB f.ps f.pl) with h3 | h3
        · have er : R = 6 := by
            rw [E.out, first_stays (k := k + 1) (by omega) (by rw [first_succ HG.out, eg, if_pos h3]; decide), first_succ HG.out, eg, if_pos h3]
          have ER : Hid (R = 6) := er
          clear er
          clear E eg KSO KST
          go_wp2_with (first
            | (go_at_call 44; rw [EZ.out]; refine (KP.out _ HBZ.out).mono ?_; rintro e w27 ⟨hb27, b27, rfl, ht27⟩; have H27 : Hid (Below wz.heap.size wz w27) := hb27; have T27 : Hid _ := ht27; clear hb27 ht27)
            | (go_at_call 17; refine (KT.out _ _ _ _ _ HPL.out T27.out).mono ?_; rintro e w28 ⟨he, hb28⟩; rw [h3] at he; subst he; have H28 : Hid (Below wz.heap.size wz w28) := H27.out.trans (hb28.mono H27.out.size); clear hb28))
          go_ret
          exact ⟨by rw [ER.out]; rfl, HZ.out.trans (H28.out.mono HZ.out.size)⟩
        · have eg2 : G k = r := by rw [eg, if_neg (by rw [h3]; decide)]
          clear eg
          go_wp2_with (first
            | (go_at_call 44; rw [EZ.out]; refine (KP.out _ HBZ.out).mono ?_; rintro e w27 ⟨hb27, b27, rfl, ht27⟩; have H27 : Hid (Below wz.heap.size wz w27) := hb27; have T27 : Hid _ := ht27; clear hb27 ht27)
            | (go_at_call 17; refine (KT.out _ _ _ _ _ HPL.out T27.out).mono ?_; rintro e w28 ⟨he, hb28⟩; rw [h3] at he; subst he; have H28 : Hid (Below wz.heap.size wz w28) := H27.out.trans (hb28.mono H27.out.size); clear hb28))
          clear h3 T27 t0 t1 t2 t3
          go_region_held3 (fun W => (W.cell? ⟨w.heap.size, 0, none⟩ = some (.string u.name) ∧ W.cell? ⟨w.heap.size, 1, none⟩ = some (.slice u.va u.vl u.vc) ∧ W.cell? ⟨w.heap.size, 2, none⟩ = some (.slice u.aa u.al u.ac) ∧ W.cell? ⟨w.heap.size, 3, none⟩ = some (.slice u.fa u.fl u.fc)) ∧ (W.cell? ⟨wr.heap.size, 0, none⟩ = some (.string f.name) ∧ W.cell? ⟨wr.heap.size, 1, none⟩ = some (.bool f.op) ∧ W.cell? ⟨wr.heap.size, 2, none⟩ = some (.slice f.pa f.pl f.pc) ∧ W.cell? ⟨wr.heap.size, 3, none⟩ = some (.slice f.ba f.bl f.bc)))
            (first | (with_reducible exact BZ.out _ H28.out.drew) | (with_reducible exact BZ.out _ H35.out) | (with_reducible exact BZ.out _ H32.out))
            (first
            | (go_at_call 45; refine (KSO.out _ (HBZ.out.trans (H28.out.drew.mono HBZ.out.size))).mono ?_; rintro e w32 ⟨la, ar, ub, pb, rfl, hS, hb32⟩; have H32 : Hid (Below wz.heap.size wz w32) := H28.out.drew.trans (hb32.mono H28.out.size); have SC : Hid _ := hS; clear hb32 hS)
            | (go_at_call 46; refine (KST.out _ _ _ _ _ _ SC.out (HBZ.out.trans (H32.out.mono HBZ.out.size)) (Below.refl _ _)).mono ?_; rintro e w35 ⟨rfl, hb35⟩; have H35 : Hid (Below wz.heap.size wz w35) := H32.out.trans (hb35.mono H32.out.size); clear hb35)
            | fail)
          all_goals
            by_cases hr : r = 0
            · subst hr
              go_wp2
              go_roundw
              case rel => exact ⟨k + 1, by omega, by go_num, by rw [first_succ HG.out, eg2], HZ0.out.trans (H35.out.mono HZ0.out.size)⟩
              case measure => simp [intOf]; omega
            · have er : R = r := by
                rw [E.out, first_stays (k := k + 1) (by omega) (by rw [first_succ HG.out, eg2]; exact hr), first_succ HG.out, eg2]
              have ER : Hid (R = r) := er
              clear er
              have hr2 : (r == 0) = false := beq_eq_false_iff_ne.2 hr
              clear E eg2 hr
              go_wp2
              go_ret
              exact ⟨by rw [ER.out]; rfl, HZ.out.trans (H35.out.mono HZ.out.size)⟩
      · obtain rfl : k = u.fl := by omega
        clear HFF EG hbel
        go_wp2
        go_ret
        exact ⟨by rw [E.out, HG.out]; rfl, HUP.out⟩
end Go.Proofs.YtgjemlhnlpglbaaDoor.NCheckUnit
