/-
  WHAT THE DOCUMENT's CellsFault GIVES, for every program and every list of cells (P8.1).
  Conditions: the units lie there, and the cells; the params' lists have as much room as they have names.
-/
import Derived.Test.YtalnfnkpemojhaaEFault
import Derived.Test.YtalnfnkpemojhaaQTop
namespace Go.Proofs.Ytalnfnkpemojhaa.ECellsF
open Go.RowKit ECells EWords EAreOf EFault Trees NSense NUnits NAsk

set_option maxRecDepth 100000 in
set_option maxHeartbeats 4000000 in
theorem cellsFault (w : World) (len pcap : Nat) (pa : Option Addr) (U : Nat → UnitD) (n lcap : Nat) (la : Option Addr) (C : Nat → CellD) (hl : len ≤ maxLen) (hn : n ≤ maxLen) (hU : URow w pa len U) (hC : CRow w la n C) (hcap : ∀ i, i < len → ∀ k, k < (U i).fl → ((U i).fs k).pl ≤ ((U i).fs k).pc ∧ ((U i).fs k).pc ≤ maxLen) :
    Calls Try.prog 14 #[.slice pa len pcap, .slice la n lcap] w fun e w' => e = .returned (.int .i64 (EFault.cellsFault len U n C)) ∧ Below w.heap.size w w' := by
  have kc : ∀ W, Below w.heap.size w W → _ := fun W hb => NRefProg.ref W len pcap pa U hl (URow_below hb hU) hcap
  have kw : ∀ W ao len cap z m, len ≤ maxLen → Nums W ao len z → _ := fun W ao len cap z m h h' => wordsMay W ao len cap z m h h'
  have CF : Hid (EFault.cellsFault len U n C = if programFault len U = 0 then (if n = len then first (storeFault U C) len else 8) else programFault len U) := (rfl : EFault.cellsFault len U n C = _)
  have SF : Hid (∀ i, storeFault U C i = if cellsB (U i) (C i) = true then 0 else 8) := fun i => (rfl : storeFault U C i = _)
  generalize storeFault U C = g at CF SF
  generalize programFault len U = r at kc CF
  obtain ⟨R, eR⟩ : ∃ R, R = EFault.cellsFault len U n C := ⟨_, rfl⟩
  rw [← eR] at CF ⊢
  have HU : Hid (URow w pa len U) := hU
  have HC : Hid (CRow w la n C) := hC
  have KC : Hid _ := kc
  have KW : Hid _ := kw
  unfold maxLen at hl hn
  have hlI : (len : Int) ≤ 9223372036854775807 := by omega
  have hnI : (n : Int) ≤ 9223372036854775807 := by omega
  clear kc kw hU hC hl hn eR hcap
  by_cases hr : r = 0
  case neg =>
    have E : Hid (R = r) := CF.out.trans (if_neg hr)
    have hr2 : (r == 0) = false := beq_eq_false_iff_ne.2 hr
    clear CF SF HU HC KW hr
    go_enter Try.func14, Try.ntmps14
    go_wp2_with (go_at_call 8; refine (KC.out _ (by exact Below.refl _ _)).mono ?_; rintro e w1 ⟨rfl, hb1⟩; have H1 : Hid _ := hb1; clear hb1)
    go_ret
    exact ⟨by rw [E.out]; rfl, H1.out⟩
  subst hr
  have CF2 : Hid (R = if n = len then first g len else 8) := CF.out.trans (if_pos rfl)
  clear CF
  by_cases hnl : n = len
  case neg =>
    have E : Hid (R = 8) := CF2.out.trans (if_neg hnl)
    have h2 : (n : Int) < len ∨ (len : Int) < n := by omega
    clear CF2 SF HU HC KW hnl
    rcases h2 with h2 | h2
    all_goals
      go_enter Try.func14, Try.ntmps14
      go_wp2_with (go_at_call 8; refine (KC.out _ (by exact Below.refl _ _)).mono ?_; rintro e w1 ⟨rfl, hb1⟩; have H1 : Hid _ := hb1; clear hb1)
      go_ret
      exact ⟨by rw [E.out]; rfl, H1.out⟩
  have E : Hid (R = first g n) := by
    have := CF2.out
    rw [if_pos hnl, ← hnl] at this
    exact this
  subst hnl
  clear CF2
  go_enter Try.func14, Try.ntmps14
  go_wp2_with (go_at_call 8; refine (KC.out _ (by exact Below.refl _ _)).mono ?_; rintro e w1 ⟨rfl, hb1⟩; have H1 : Hid (Below w.heap.size w w1) := hb1; clear hb1)
  clear KC
  go_loopw [6] (fun i wr => ∃ k : Nat, k ≤ n ∧ i = .int .i64 k ∧ Hid (first g k = 0) ∧ Hid (Below w.heap.size w wr)) (fun i _ => n - (intOf i).toNat)
  case atStart => exact ⟨0, Nat.zero_le _, rfl, (rfl : first g 0 = 0), H1⟩
  case round =>
    clear H1
    revert wr
    intro w0 hrel
    obtain ⟨k, hk, rfl, GK, HB⟩ := hrel
    by_cases hkn : k < n
    case neg =>
      obtain rfl : k = n := by omega
      clear HU HC KW SF
      go_wp2
      go_ret
      exact ⟨by rw [E.out, GK.out]; rfl, HB.out⟩
    obtain ⟨⟨bl, off, ea, t0, t1, t2, t3⟩, hu⟩ := HU.out k hkn
    obtain ⟨bl2, off2, va, vc, aa, ac, e2, ⟨s0, s1⟩, hls, hv, hi⟩ := HC.out k hkn
    have hkI : (k : Int) < n := by omega
    have GS : Hid (g k = if cellsB (U k) (C k) = true then 0 else 8) := SF.out k
    clear SF HU HC
    generalize U k = v at t0 t1 t2 t3 GS hu
    generalize C k = c at s0 s1 GS hls hv hi
    have hA := hu.2.2.1
    have bs : ∀ W, Below w.heap.size w W → (W.cell? ⟨bl, off + k * 4, none⟩ = some (.string v.name) ∧ W.cell? ⟨bl, off + k * 4 + 1, none⟩ = some (.slice v.va v.vl v.vc) ∧ W.cell? ⟨bl, off + k * 4 + 2, none⟩ = some (.slice v.aa v.al v.ac) ∧ W.cell? ⟨bl, off + k * 4 + 3, none⟩ = some (.slice v.fa v.fl v.fc)) ∧ (W.cell? ⟨bl2, off2 + k * 2, none⟩ = some (.slice va c.vl vc) ∧ W.cell? ⟨bl2, off2 + k * 2 + 1, none⟩ = some (.slice aa c.al ac)) := fun W hw =>
      ⟨⟨(hw.cell (World.block_lt_of_cell? w _ t0)).trans t0, (hw.cell (World.block_lt_of_cell? w _ t1)).trans t1, (hw.cell (World.block_lt_of_cell? w _ t2)).trans t2, (hw.cell (World.block_lt_of_cell? w _ t3)).trans t3⟩, (hw.cell (World.block_lt_of_cell? w _ s0)).trans s0, (hw.cell (World.block_lt_of_cell? w _ s1)).trans s1⟩
    have k1 : ∀ W, Below w.heap.size w W → Calls Try.prog 28 #[.slice va c.vl vc, .int .i64 v.vl] W fun e w' => e = .returned (.bool (wordsB c.vs c.vl && ((c.vl : Int) == (v.vl : Int)))) ∧ w' = W := fun W hb => KW.out W va c.vl vc c.vs v.vl hls.1 (Nums_below hb hv)
    have hx := hu.1.2.2.1
    have hy := hls.2
    unfold maxLen at hx hy
    have hvI : (v.al : Int) ≤ 9223372036854775807 := by omega
    have hcI : (c.al : Int) ≤ 9223372036854775807 := by omega
    have NV : Hid ((wordsB c.vs c.vl && ((c.vl : Int) == (v.vl : Int))) = false → cellsB v c = false) := no_vars
    have NL : Hid (c.al ≠ v.al → cellsB v c = false) := no_len
    have NA : Hid (∀ j, j < v.al → (wordsB (c.an j) (c.ll j) && ((c.ll j : Int) == v.az j)) = false → cellsB v c = false) := fun j hj h => no_arr hj h
    have AY : Hid ((wordsB c.vs c.vl && ((c.vl : Int) == (v.vl : Int))) = true → c.al = v.al → (∀ j, j < v.al → (wordsB (c.an j) (c.ll j) && ((c.ll j : Int) == v.az j)) = true) → cellsB v c = true) := all_yes
    generalize cellsB v c = q at GS NV NL NA AY
    generalize (wordsB c.vs c.vl && ((c.vl : Int) == (v.vl : Int))) = b at k1 NV AY
    have HA : Hid (ARow w v.aa v.al v.an v.az) := hA
    have HI : Hid (IRow w aa c.al c.ll c.an) := hi
    have BAD : q = false → Hid (R = 8) := fun hq => by
      have gk : first g (k + 1) = 8 := (first_succ GK.out).trans (GS.out.trans (by rw [hq]; exact if_neg (by decide)))
      exact (by rw [E.out, first_stays (k := k + 1) (by omega) (by rw [gk]; decide), gk] : R = 8)
    have GOOD : q = true → Hid (first g (k + 1) = 0) := fun hq => (first_succ GK.out).trans (GS.out.trans (by rw [hq]; exact if_pos rfl))
    clear t0 t1 t2 t3 s0 s1 hv hi hu hA hls GS E hx hy
    generalize v.aa = uaa at bs HA
    have BS : Hid _ := bs
    have K1 : Hid _ := k1
    obtain ⟨⟨t0, t1, t2, t3⟩, ⟨s0, s1⟩⟩ := bs w0 HB.out
    clear bs k1
    rw [ea, e2] at *
    cases b
    case false =>
      have ER := BAD (NV.out rfl)
      clear BAD GOOD NV NL NA AY KW HA HI
      go_wp2
      go_quiet ((go_at_call 28; exact Calls.quiet_of_same (K1.out _ ⟨HB.out.os, HB.out.tape, HB.out.output, HB.out.size, HB.out.block⟩)))
      go_wp2
      go_ret
      exact ⟨by rw [ER.out]; rfl, ⟨HB.out.os, HB.out.tape, HB.out.output, HB.out.size, HB.out.block⟩⟩
    by_cases hal : c.al = v.al
    case neg =>
      have ER := BAD (NL.out hal)
      have n1 : ((c.al : Int) != (v.al : Int)) = true := bne_iff_ne.2 (by omega)
      clear BAD GOOD NV NL NA AY KW HA HI hal
      go_wp2
      go_quiet ((go_at_call 28; exact Calls.quiet_of_same (K1.out _ ⟨HB.out.os, HB.out.tape, HB.out.output, HB.out.size, HB.out.block⟩)))
      go_wp2
      go_ret
      exact ⟨by rw [ER.out]; rfl, ⟨HB.out.os, HB.out.tape, HB.out.output, HB.out.size, HB.out.block⟩⟩
    have AY2 : Hid ((∀ j, j < v.al → (wordsB (c.an j) (c.ll j) && ((c.ll j : Int) == v.az j)) = true) → q = true) := fun h => AY.out rfl hal h
    have HAL : Hid (c.al = v.al) := hal
    have n1 : ((c.al : Int) != (v.al : Int)) = false := by rw [hal]; simp
    clear NV NL AY hal
    go_wp2
    go_quiet ((go_at_call 28; exact Calls.quiet_of_same (K1.out _ ⟨HB.out.os, HB.out.tape, HB.out.output, HB.out.size, HB.out.block⟩)))
    go_wp2
    clear K1 n1 t0 t1 t2 t3 s0 s1
    go_loopw [7] (fun i wr => ∃ j : Nat, j ≤ v.al ∧ i = .int .i64 j ∧ Hid (∀ t, t < j → (wordsB (c.an t) (c.ll t) && ((c.ll t : Int) == v.az t)) = true) ∧ Hid (Below w.heap.size w wr)) (fun i _ => v.al - (intOf i).toNat)
    case atStart => exact ⟨0, Nat.zero_le _, rfl, (fun t ht => absurd ht (Nat.not_lt_zero t) : ∀ t, t < 0 → (wordsB (c.an t) (c.ll t) && ((c.ll t : Int) == v.az t)) = true), ⟨HB.out.os, HB.out.tape, HB.out.output, HB.out.size, HB.out.block⟩⟩
    case round =>
      clear HB
      revert wr
      intro w5 hrel
      obtain ⟨j, hj, rfl, HJ, HB⟩ := hrel
      obtain ⟨⟨t0, t1, t2, t3⟩, ⟨s0, s1⟩⟩ := BS.out _ HB.out
      have hvJ : (c.al : Int) = v.al := by rw [HAL.out]
      by_cases hjv : j < v.al
      · obtain ⟨⟨bl3, off3, e3, d0, d1⟩, _⟩ := ARow_below HB.out HA.out j hjv
        obtain ⟨bl4, off4, r4, c4, e4, d4, hll, hnm⟩ := IRow_below HB.out HI.out j (by rw [HAL.out]; exact hjv)
        have hjI : (j : Int) < v.al := by omega
        have hjC : (j : Int) < c.al := by omega
        have kk : ∀ W, Below w5.heap.size w5 W → Calls Try.prog 28 #[.slice r4 (c.ll j) c4, .int .i64 (v.az j)] W fun e w' => e = .returned (.bool (wordsB (c.an j) (c.ll j) && ((c.ll j : Int) == v.az j))) ∧ w' = W := fun W hb => KW.out W r4 (c.ll j) c4 (c.an j) (v.az j) hll (Nums_below hb hnm)
        have NJ : Hid ((wordsB (c.an j) (c.ll j) && ((c.ll j : Int) == v.az j)) = false → q = false) := fun h => NA.out j hjv h
        have NEXT : (wordsB (c.an j) (c.ll j) && ((c.ll j : Int) == v.az j)) = true → Hid (∀ t, t < j + 1 → (wordsB (c.an t) (c.ll t) && ((c.ll t : Int) == v.az t)) = true) := fun hx t ht => by
          rcases Nat.lt_or_ge t j with h | h
          · exact HJ.out t h
          · obtain rfl : t = j := by omega
            exact hx
        clear NA AY2 HJ KW HA HI hnm hll hvJ
        generalize (wordsB (c.an j) (c.ll j) && ((c.ll j : Int) == v.az j)) = b at kk NJ NEXT
        have KK : Hid _ := kk
        clear kk BS
        subst e3 e4
        cases b
        · have ER := BAD (NJ.out rfl)
          clear BAD GOOD NJ NEXT
          go_wp2
          go_quiet ((go_at_call 28; exact Calls.quiet_of_same (KK.out _ ⟨rfl, rfl, rfl, Nat.le_refl _, fun _ _ => rfl⟩)))
          go_wp2
          go_ret
          exact ⟨by rw [ER.out]; rfl, ⟨HB.out.os, HB.out.tape, HB.out.output, HB.out.size, HB.out.block⟩⟩
        · have NX := NEXT rfl
          clear BAD GOOD NJ NEXT
          go_wp2
          go_quiet ((go_at_call 28; exact Calls.quiet_of_same (KK.out _ ⟨rfl, rfl, rfl, Nat.le_refl _, fun _ _ => rfl⟩)))
          go_wp2
          go_roundw
          case rel => exact ⟨j + 1, by omega, by go_num, NX, ⟨HB.out.os, HB.out.tape, HB.out.output, HB.out.size, HB.out.block⟩⟩
          case measure => simp [intOf]; omega
      · obtain rfl : j = v.al := by omega
        have GK2 := GOOD (AY2.out HJ.out)
        clear BAD GOOD NA AY2 HJ KW HA HI BS
        go_wp2
        go_roundw
        case rel => exact ⟨k + 1, by omega, by go_num, GK2, HB⟩
        case measure => simp [intOf]; omega
end Go.Proofs.Ytalnfnkpemojhaa.ECellsF
