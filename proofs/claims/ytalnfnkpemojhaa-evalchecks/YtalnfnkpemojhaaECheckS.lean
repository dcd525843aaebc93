/-
  WHAT eval.CheckStores GIVES, for every program and every list of cells (P8.1).
  Conditions: the units lie there, and the cells.
-/
import Derived.Test.YtalnfnkpemojhaaEFault
import Derived.Test.YtalnfnkpemojhaaQTop
namespace Go.Proofs.Ytalnfnkpemojhaa.ECheckS
open Go.RowKit ECells EWords EAreOf EFault Trees NSense NUnits NAsk

set_option maxHeartbeats 4000000 in
theorem checkStores (w : World) (len pcap : Nat) (pa : Option Addr) (U : Nat → UnitD) (n lcap : Nat) (la : Option Addr) (C : Nat → CellD) (hl : len ≤ maxLen) (hn : n ≤ maxLen) (hU : URow w pa len U) (hC : CRow w la n C) :
    Calls Try.prog 13 #[.slice pa len pcap, .slice la n lcap] w fun e w' => e = .returned (.int .i64 (cellsFault len U n C)) ∧ Below w.heap.size w w' := by
  have kc : ∀ W, Below w.heap.size w W → _ := fun W hb => NCheck.check W len pcap pa U hl (URow_below hb hU)
  have ka : ∀ (k : Nat) (W : World), k < len → k < n → Below w.heap.size w W → ∀ va vc aa ac, Nums w va (C k).vl (C k).vs → IRow w aa (C k).al (C k).ll (C k).an → ((C k).vl ≤ maxLen ∧ (C k).al ≤ maxLen) → Calls Try.prog 27 #[.agg #[.string (U k).name, .slice (U k).va (U k).vl (U k).vc, .slice (U k).aa (U k).al (U k).ac, .slice (U k).fa (U k).fl (U k).fc], .agg #[.slice va (C k).vl vc, .slice aa (C k).al ac]] W fun e w' => e = .returned (.bool (cellsB (U k) (C k))) ∧ Below W.heap.size W w' := fun k W hk hk' hb va vc aa ac h1 h2 h3 => areOf W (U k) (C k) va aa vc ac (UnitLies_below hb (hU k hk).2) h3 (Nums_below hb h1) (IRow_below hb h2)
  have CF : Hid (cellsFault len U n C = if programFault len U = 0 then (if n = len then first (storeFault U C) len else 8) else programFault len U) := (rfl : cellsFault len U n C = _)
  have SF : Hid (∀ i, storeFault U C i = if cellsB (U i) (C i) = true then 0 else 8) := fun i => (rfl : storeFault U C i = _)
  generalize storeFault U C = g at CF SF
  generalize programFault len U = r at kc CF
  obtain ⟨R, eR⟩ : ∃ R, R = cellsFault len U n C := ⟨_, rfl⟩
  rw [← eR] at CF ⊢
  have HU : Hid (URow w pa len U) := hU
  have HC : Hid (CRow w la n C) := hC
  have KC : Hid _ := kc
  have KA : Hid _ := ka
  unfold maxLen at hl hn
  have hlI : (len : Int) ≤ 9223372036854775807 := by omega
  have hnI : (n : Int) ≤ 9223372036854775807 := by omega
  clear kc ka hU hC hl hn eR
  by_cases hr : r = 0
  case neg =>
    have E : Hid (R = r) := CF.out.trans (if_neg hr)
    have hr2 : (r == 0) = false := beq_eq_false_iff_ne.2 hr
    clear CF SF HU HC KA hr
    go_enter Try.func13, Try.ntmps13
    go_wp2_with (go_at_call 7; refine (KC.out _ (by exact Below.refl _ _)).mono ?_; rintro e w1 ⟨rfl, hb1⟩; have H1 : Hid _ := hb1; clear hb1)
    go_ret
    exact ⟨by rw [E.out]; rfl, H1.out⟩
  subst hr
  have CF2 : Hid (R = if n = len then first g len else 8) := CF.out.trans (if_pos rfl)
  clear CF
  by_cases hnl : n = len
  case neg =>
    have E : Hid (R = 8) := CF2.out.trans (if_neg hnl)
    have h2 : (n : Int) < len ∨ (len : Int) < n := by omega
    clear CF2 SF HU HC KA hnl
    rcases h2 with h2 | h2
    all_goals
      go_enter Try.func13, Try.ntmps13
      go_wp2_with (go_at_call 7; refine (KC.out _ (by exact Below.refl _ _)).mono ?_; rintro e w1 ⟨rfl, hb1⟩; have H1 : Hid _ := hb1; clear hb1)
      go_ret
      exact ⟨by rw [E.out]; rfl, H1.out⟩
  have E : Hid (R = first g n) := by
    have := CF2.out
    rw [if_pos hnl, ← hnl] at this
    exact this
  subst hnl
  clear CF2
  go_enter Try.func13, Try.ntmps13
  go_wp2_with (go_at_call 7; refine (KC.out _ (by exact Below.refl _ _)).mono ?_; rintro e w1 ⟨rfl, hb1⟩; have H1 : Hid (Below w.heap.size w w1) := hb1; clear hb1)
  clear KC
  go_loopw [20] (fun i wr => ∃ k : Nat, k ≤ n ∧ i = .int .i64 k ∧ Hid (first g k = 0) ∧ Hid (Below w.heap.size w wr)) (fun i _ => n - (intOf i).toNat)
  case atStart => exact ⟨0, Nat.zero_le _, rfl, (rfl : first g 0 = 0), H1⟩
  case round =>
    clear H1
    revert wr
    intro w0 hrel
    obtain ⟨k, hk, rfl, GK, HB⟩ := hrel
    have hsz := HB.out.size
    by_cases hkn : k < n
    case neg =>
      obtain rfl : k = n := by omega
      clear HU HC KA SF
      go_wp2
      go_ret
      exact ⟨by rw [E.out, GK.out]; rfl, HB.out⟩
    obtain ⟨⟨bl, off, ea, t0, t1, t2, t3⟩, _⟩ := URow_below HB.out HU.out k hkn
    obtain ⟨bl2, off2, va, vc, aa, ac, e2, ⟨s0, s1⟩, hls, hv, hi⟩ := HC.out k hkn
    have kk := fun W hb => KA.out k W hkn hkn hb va vc aa ac hv hi hls
    have hkI : (k : Int) < n := by omega
    have GS : Hid (g k = if cellsB (U k) (C k) = true then 0 else 8) := SF.out k
    generalize cellsB (U k) (C k) = b at kk GS
    clear SF HU HC KA hv hi hls
    generalize U k = v at t0 t1 t2 t3 kk
    generalize C k = c at s0 s1 kk
    obtain ⟨wz, ez⟩ : ∃ wz, wz = w0.alloc (.cells #[.string v.name, .slice v.va v.vl v.vc, .slice v.aa v.al v.ac, .slice v.fa v.fl v.fc] 38) := ⟨_, rfl⟩
    have hbz : Below w0.heap.size w0 wz := by rw [ez]; exact (Below.refl w0.heap.size w0).alloc (Nat.le_refl _) _
    have HZ : Hid (Below w.heap.size w wz) := HB.out.trans (hbz.mono hsz)
    have bs : ∀ W, Below wz.heap.size wz W → (W.cell? ⟨w0.heap.size, 0, none⟩ = some (.string v.name) ∧ W.cell? ⟨w0.heap.size, 1, none⟩ = some (.slice v.va v.vl v.vc) ∧ W.cell? ⟨w0.heap.size, 2, none⟩ = some (.slice v.aa v.al v.ac) ∧ W.cell? ⟨w0.heap.size, 3, none⟩ = some (.slice v.fa v.fl v.fc)) ∧ (W.cell? ⟨bl2, off2 + k * 2, none⟩ = some (.slice va c.vl vc) ∧ W.cell? ⟨bl2, off2 + k * 2 + 1, none⟩ = some (.slice aa c.al ac)) := fun W hb => by
      have hw := HZ.out.trans (hb.mono HZ.out.size)
      refine ⟨?_, (hw.cell (World.block_lt_of_cell? w _ s0)).trans s0, (hw.cell (World.block_lt_of_cell? w _ s1)).trans s1⟩
      rw [ez] at hb
      exact UnitCheck.box4 hb
    have EZ : Hid (w0.alloc (.cells #[.string v.name, .slice v.va v.vl v.vc, .slice v.aa v.al v.ac, .slice v.fa v.fl v.fc] 38) = wz) := ez.symm
    have BS : Hid _ := bs
    have KK : Hid _ := kk
    clear kk bs ez hbz s0 s1
    subst ea e2
    go_wp2
    rw [EZ.out]
    clear t0 t1 t2 t3
    go_region_held3 (fun W => (W.cell? ⟨w0.heap.size, 0, none⟩ = some (.string v.name) ∧ W.cell? ⟨w0.heap.size, 1, none⟩ = some (.slice v.va v.vl v.vc) ∧ W.cell? ⟨w0.heap.size, 2, none⟩ = some (.slice v.aa v.al v.ac) ∧ W.cell? ⟨w0.heap.size, 3, none⟩ = some (.slice v.fa v.fl v.fc)) ∧ (W.cell? ⟨bl2, off2 + k * 2, none⟩ = some (.slice va c.vl vc) ∧ W.cell? ⟨bl2, off2 + k * 2 + 1, none⟩ = some (.slice aa c.al ac)))
      (first | (with_reducible exact BS.out _ (Below.refl _ _).drew) | (with_reducible exact BS.out _ H4.out))
      (first
      | (go_at_call 27; refine (KK.out _ HZ.out.drew).mono ?_; rintro e w4 ⟨rfl, hb4⟩; have H4 : Hid (Below wz.heap.size wz w4) := (Below.refl wz.heap.size wz).drew.trans hb4; clear hb4)
      | fail)
    all_goals
      cases b
      · have gk : first g (k + 1) = 8 := (first_succ GK.out).trans (GS.out.trans (if_neg (by decide)))
        have er : R = 8 := by rw [E.out, first_stays (k := k + 1) (by omega) (by rw [gk]; decide), gk]
        have ER : Hid (R = 8) := er
        clear gk er GS E
        go_wp2
        go_ret
        exact ⟨by rw [ER.out]; rfl, HZ.out.trans (H4.out.mono HZ.out.size)⟩
      · have gk : first g (k + 1) = 0 := (first_succ GK.out).trans (GS.out.trans (if_pos rfl))
        have GK2 : Hid (first g (k + 1) = 0) := gk
        clear gk GS E
        go_wp2
        go_roundw
        case rel => exact ⟨k + 1, by omega, by go_num, GK2, HZ.out.trans (H4.out.mono HZ.out.size)⟩
        case measure => simp [intOf]; omega
end Go.Proofs.Ytalnfnkpemojhaa.ECheckS
