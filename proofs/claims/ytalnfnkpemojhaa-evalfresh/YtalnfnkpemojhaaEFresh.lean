/-
  WHAT eval.Fresh GIVES: the fault of the program, or cells of nothing but zeros for each of its units (P8.1).
  Conditions: the units lie there.
-/
import Derived.Test.YtalnfnkpemojhaaEFreshOf
import Derived.Test.YtalnfnkpemojhaaECopy
import Derived.Test.YtalnfnkpemojhaaQTop
namespace Go.Proofs.Ytalnfnkpemojhaa.EFresh
open Go.RowKit ECells ECopied ERows EOpen ECopy Trees NSense NUnits NAsk

/-- a unit's fresh cells -/
def freshC (U : Nat → UnitD) (i : Nat) : CellD := ⟨(U i).vl, fun _ => 0, (U i).al, fun j => ((U i).az j).toNat, fun _ _ => 0⟩

/-- a program without a fault is small -/
theorem small {len : Nat} {U : Nat → UnitD} (h : programFault len U = 0) : len ≤ 5 ∧ ∀ i, i < len → (U i).vl ≤ 8 ∧ (U i).al ≤ 3 ∧ ∀ j, j < (U i).al → 1 ≤ (U i).az j ∧ (U i).az j ≤ 10 := by
  unfold programFault at h
  by_cases h5 : len ≤ 5
  case neg => rw [if_neg h5] at h; exact absurd h (by decide)
  rw [if_pos h5] at h
  by_cases hf : first (fun i => unitFault (U i)) len = 0
  case neg => rw [if_neg hf] at h; exact absurd h hf
  exact ⟨h5, fun i hi => NWords.sized (first_zero hf i hi)⟩

set_option maxHeartbeats 4000000 in
theorem fresh (w : World) (len pcap : Nat) (pa : Option Addr) (U : Nat → UnitD) (hl : len ≤ maxLen) (hU : URow w pa len U) :
    Calls Try.prog 9 #[.slice pa len pcap] w fun e w' => Below w.heap.size w w' ∧
      ((programFault len U ≠ 0 ∧ e = .returned (.tuple #[.slice none 0 0, .int .i64 (programFault len U)])) ∨
       (programFault len U = 0 ∧ ∃ q, e = .returned (.tuple #[.slice q len len, .int .i64 0]) ∧ CRow w' q len (freshC U))) := by
  have kc : ∀ W, Below w.heap.size w W → _ := fun W hb => NCheck.check W len pcap pa U hl (URow_below hb hU)
  have KC : Hid _ := kc
  obtain ⟨r, er⟩ : ∃ r, r = programFault len U := ⟨_, rfl⟩
  have ER : Hid (r = programFault len U) := er
  rw [← er] at kc KC ⊢
  clear kc
  by_cases hr : r = 0
  case neg =>
    have hr2 : (r == 0) = false := beq_eq_false_iff_ne.2 hr
    have HR : Hid (r ≠ 0) := hr
    clear hr er hU hl ER
    go_enter Try.func9, Try.ntmps9
    go_wp2_with (go_at_call 7; refine (KC.out _ (by exact Below.refl _ _)).mono ?_; rintro e w1 ⟨rfl, hb1⟩; have H1 : Hid _ := hb1; clear hb1)
    go_ret2
    exact ⟨H1.out, .inl ⟨HR.out, rfl⟩⟩
  subst hr
  obtain ⟨h5, hsm⟩ := small ER.out.symm
  obtain ⟨M, hM, hmk⟩ := make_cells len (by omega)
  have kf : ∀ (k : Nat) W, k < len → Below w.heap.size w W → _ := fun k W hk hb => EFreshOf.freshOf W (U k) (UnitLies_below hb (hU k hk).2) (hsm k hk).1 (hsm k hk).2.1 (hsm k hk).2.2
  have hls : ∀ i, i < len → ((freshC U i).vl ≤ maxLen ∧ (freshC U i).al ≤ maxLen) ∧ ∀ j, j < (freshC U i).al → (freshC U i).ll j ≤ maxLen := fun i hi => by
    obtain ⟨h1, h2, h3⟩ := hsm i hi
    refine ⟨⟨?_, ?_⟩, fun j hj => ?_⟩
    · show (U i).vl ≤ maxLen; unfold maxLen; omega
    · show (U i).al ≤ maxLen; unfold maxLen; omega
    · have := h3 j hj; show ((U i).az j).toNat ≤ maxLen; unfold maxLen; omega
  obtain ⟨C, eC⟩ : ∃ C, C = freshC U := ⟨_, rfl⟩
  have CU : Hid (∀ k, C k = ⟨(U k).vl, fun _ => 0, (U k).al, fun j => ((U k).az j).toNat, fun _ _ => 0⟩) := fun k => by rw [eC]; rfl
  rw [← eC] at hls ⊢
  have HU : Hid (URow w pa len U) := hU
  have KF : Hid _ := kf
  have HLS : Hid _ := hls
  have HM : Hid (M.size = len * 2) := hM
  have HMK : Hid _ := hmk
  have hlI : (len : Int) ≤ 5 := by omega
  clear er hU hl h5 hsm hM kf hls eC hmk ER
  go_enter Try.func9, Try.ntmps9
  go_wp2_with (first
    | (go_at_call 7; refine (KC.out _ (by exact Below.refl _ _)).mono ?_; rintro e w1 ⟨rfl, hb1⟩; have H1 : Hid (Below w.heap.size w w1) := hb1; clear hb1; have hmk := HMK.out)
    | fail)
  obtain ⟨w2, ew⟩ : ∃ w2, w2 = w1.alloc (.cells M 57) := ⟨_, rfl⟩
  have hb2 : Below w1.heap.size w1 w2 := by rw [ew]; exact (Below.refl _ _).alloc (Nat.le_refl _) _
  have hz2 : w2.heap.size = w1.heap.size + 1 := by rw [ew]; simp
  have hr2 : RowAt w2 w1.heap.size (len * 2) := by rw [ew, ← HM.out]; exact RowAt_new w1 M _
  have EW : Hid (w1.alloc (.cells M 57) = w2) := ew.symm
  have H2 : Hid (Below w.heap.size w w2) := H1.out.trans (hb2.mono H1.out.size)
  have HZ2 : Hid (w2.heap.size = w1.heap.size + 1) := hz2
  have HR2 : Hid (RowAt w2 w1.heap.size (len * 2)) := hr2
  have HS1 : Hid (w.heap.size ≤ w1.heap.size) := H1.out.size
  rw [EW.out]
  clear hmk hb2 hz2 hr2 ew KC H1 HM HMK
  go_loopw [18] (fun i wr => ∃ k : Nat, k ≤ len ∧ i = .int .i64 k ∧ Hid (CFill wr w2.heap.size w1.heap.size k C) ∧ Hid (RowAt wr w1.heap.size (len * 2)) ∧ Hid (Below w.heap.size w wr) ∧ Hid (w2.heap.size ≤ wr.heap.size)) (fun i _ => len - (intOf i).toNat)
  case atStart => exact ⟨0, Nat.zero_le _, rfl, (fun i hi => absurd hi (Nat.not_lt_zero i) : CFill _ _ _ 0 _), HR2, H2, Nat.le_refl _⟩
  case round =>
    clear HR2 H2
    revert wr
    intro w7 hrel
    obtain ⟨k, hk, rfl, HF, HR, HB, HS⟩ := hrel
    have hs7 := HB.out.size
    have hz := HZ2.out
    have hs8 := HS.out
    have hs9 := HS1.out
    by_cases hkn : k < len
    · obtain ⟨⟨bl, off, ea, t0, t1, t2, t3⟩, _⟩ := URow_below HB.out HU.out k hkn
      have hkI : (k : Int) < len := by omega
      obtain ⟨wz, ez⟩ : ∃ wz, wz = w7.alloc (.cells #[.string (U k).name, .slice (U k).va (U k).vl (U k).vc, .slice (U k).aa (U k).al (U k).ac, .slice (U k).fa (U k).fl (U k).fc] 38) := ⟨_, rfl⟩
      have hbz : Below w7.heap.size w7 wz := by rw [ez]; exact (Below.refl _ _).alloc (Nat.le_refl _) _
      have kk : True → _ := fun _ => KF.out k wz hkn (HB.out.trans (hbz.mono hs7))
      have EZ : Hid (w7.alloc (.cells #[.string (U k).name, .slice (U k).va (U k).vl (U k).vc, .slice (U k).aa (U k).al (U k).ac, .slice (U k).fa (U k).fl (U k).fc] 38) = wz) := ez.symm
      have HBZ : Hid (Below w7.heap.size w7 wz) := hbz
      have FN : Hid (∀ (W : World) (r q : Option Addr) (u0 u1 : Value), W.cell? ⟨w1.heap.size, k * 2, none⟩ = some u0 → W.cell? ⟨w1.heap.size, k * 2 + 1, none⟩ = some u1 → CFill W w2.heap.size w1.heap.size k C → New W w2.heap.size r (U k).vl (fun _ => 0) → NRow W w2.heap.size q (U k).al (fun j => ((U k).az j).toNat) (fun _ _ => 0) → CFill ((W.setCell ⟨w1.heap.size, k * 2, none⟩ (.slice r (U k).vl (U k).vl)).setCell ⟨w1.heap.size, k * 2 + 1, none⟩ (.slice q (U k).al (U k).al)) w2.heap.size w1.heap.size (k + 1) C) := fun W r q u0 u1 h0 h1 h2 h3 h4 => by
        have := @CFill_next W w2.heap.size w1.heap.size k C (by omega) u0 u1 h0 h1 h2 r q
        rw [CU.out k] at this
        exact this h3 h4
      clear KF HU CU ez hbz
      generalize U k = u at *
      have KK : Hid _ := kk
      clear kk
      subst ea
      go_wp2_with (go_at_call 24; rw [EZ.out]; refine (KK.out ⟨⟩).mono ?_; rintro e w8 ⟨hb8, r, q, rfl, hn8, hr8⟩; have X8 : Hid (Below w7.heap.size w7 w8) := HBZ.out.trans (hb8.mono HBZ.out.size); have N8 : Hid (New w8 _ r u.vl fun _ => 0) := hn8; have R8 : Hid (NRow w8 _ q u.al (fun j => (u.az j).toNat) fun _ _ => 0) := hr8; have Q8 : Hid _ := RowAt_below X8.out HR.out; obtain ⟨⟨u0, c0⟩, f0⟩ := Q8.out (k * 2) (by omega); obtain ⟨⟨u1, c1⟩, f1⟩ := Q8.out (k * 2 + 1) (by omega); clear hb8 hn8 hr8)
      go_roundw
      case rel =>
        have hz8 : w2.heap.size ≤ wz.heap.size := Nat.le_trans hs8 HBZ.out.size
        exact ⟨k + 1, by omega, by go_num, FN.out w8 r q u0 u1 c0 c1 (CFill_below X8.out HF.out) (New_mono hz8 N8.out) (NRow_mono hz8 R8.out), RowAt_set (RowAt_set Q8.out _ _) _ _, ((HB.out.trans (X8.out.mono hs7)).setCell (p := ⟨w1.heap.size, k * 2, none⟩) hs9 _).setCell (p := ⟨w1.heap.size, k * 2 + 1, none⟩) hs9 _, Nat.le_trans (Nat.le_trans hs8 X8.out.size) (by simp [World.setCell])⟩
      case measure => simp [intOf]; omega
    · obtain rfl : k = len := by omega
      clear KF HU CU
      go_wp2
      go_ret2
      exact ⟨HB.out, .inr ⟨⟨⟩, _, rfl, CFill_row HF.out HLS.out⟩⟩
end Go.Proofs.Ytalnfnkpemojhaa.EFresh
