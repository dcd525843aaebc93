/-
  WHAT mach.check AND mach.Run GIVE where something is refused (P4.1).
  Conditions: the table 'code.bounds' lies there, the image's parts, the data and the words.
-/
import Derived.Test.YtmbbkabecipkaacDoorWhole21
namespace Go.Proofs.YtmbbkabecipkaacDoor.MBad
open Go.RowKit Tab Go.Proofs.YtmbbkabecipkaacDoor.Check Lists Go.Proofs.YtmbbkabecipkaacDoor.Read Img Mach Own Go.Proofs.YtmbbkabecipkaacDoor.Inv Go.Proofs.YtmbbkabecipkaacDoor.Frame Take Go.Proofs.YtmbbkabecipkaacDoor.Went Go.Proofs.YtmbbkabecipkaacDoor.Entry ActE ActQ Go.Proofs.YtmbbkabecipkaacDoor.Start MCheck MRun

set_option linter.unusedVariables false

set_option maxRecDepth 100000 in
theorem check_data (ao : Option Addr) (len cap : Nat) (hlen : len ≤ maxLen) (P : Nat → PartD) (da : Option Addr) (dlen dcap : Nat) (z : Nat → Int) (aa : Option Addr) (alen acap : Nat) (az : Nat → Int) (p en fuel : Int) (w : World) (hl : Lies w) (hin : Parts w ao len P) (hd : Ints w da dlen z) (r : Int) (er : dataFault P len z dlen = r) (hr : (r == 0) = false) :
    Calls Tryd.prog 22 #[.agg #[.slice ao len cap], .slice da dlen dcap, .int .i64 p, .int .i64 en, .slice aa alen acap, .int .i64 fuel] w fun e w' => e = .returned (.int .i64 r) ∧ Below w.heap.size w w' := by
  have hb0 := below1 w (.cells #[.slice ao len cap] 24)
  have k31 : ∀ W, Below w.heap.size w W → _ := fun W hb => Data.checkData ao len cap hlen P da dlen dcap z W (Lies_below hl hb) (Parts_below hin hb) (Ints_below hd hb)
  rw [er] at k31
  have K31 : Hid _ := k31
  have HB0 : Hid _ := hb0
  clear k31 hb0 hl hin hd er hlen
  go_enter Tryd.func22, Tryd.ntmps22
  go_wp2_with (go_at_call 31; refine (K31.out _ HB0.out).mono ?_; rintro e w1 ⟨rfl, hb1⟩; have q0 := box1 hb1; have hb2 := HB0.out.trans (hb1.mono HB0.out.size); have HB2 : Hid _ := hb2; clear hb1 hb2)
  go_ret
  exact ⟨rfl, HB2.out⟩

set_option maxRecDepth 100000 in
theorem check_none (ao : Option Addr) (len cap : Nat) (hlen : len ≤ maxLen) (P : Nat → PartD) (da : Option Addr) (dlen dcap : Nat) (z : Nat → Int) (aa : Option Addr) (alen acap : Nat) (az : Nat → Int) (p en fuel : Int) (w : World) (hl : Lies w) (hin : Parts w ao len P) (hd : Ints w da dlen z) (er : dataFault P len z dlen = 0) (hno : ¬ ((0 ≤ p ∧ p < len) ∧ (0 ≤ en ∧ en < (P p.toNat).el))) :
    Calls Tryd.prog 22 #[.agg #[.slice ao len cap], .slice da dlen dcap, .int .i64 p, .int .i64 en, .slice aa alen acap, .int .i64 fuel] w fun e w' => e = .returned (.int .i64 5) ∧ Below w.heap.size w w' := by
  have h5 := (imageFault_zero (dataFault_zero er).1).1
  have hel := fun k hk => (part_sure (first_zero (imageFault_zero (dataFault_zero er).1).2 k hk)).2.1
  have hb0 := below1 w (.cells #[.slice ao len cap] 24)
  have k31 : ∀ W, Below w.heap.size w W → _ := fun W hb => Data.checkData ao len cap hlen P da dlen dcap z W (Lies_below hl hb) (Parts_below hin hb) (Ints_below hd hb)
  rw [er] at k31
  have k33 : ∀ W, Below w.heap.size w W → _ := fun W hb => entryOf_no ao len cap h5 P hel p en W (Parts_below hin hb) hno
  have K31 : Hid _ := k31
  have K33 : Hid _ := k33
  have HB0 : Hid _ := hb0
  clear k31 k33 hb0 hl hin hd er hlen h5 hel hno
  go_enter Tryd.func22, Tryd.ntmps22
  go_wp2_with (first
    | (go_at_call 31; refine (K31.out _ HB0.out).mono ?_; rintro e w1 ⟨rfl, hb1⟩; have q0 := box1 hb1; have hb2 := HB0.out.trans (hb1.mono HB0.out.size); have HB2 : Hid _ := hb2; clear hb1 hb2)
    | (go_at_call 33; refine (K33.out _ HB2.out).mono ?_; rintro e w2 ⟨rfl, rfl⟩))
  go_ret
  exact ⟨rfl, by first | exact (HB2.out.alloc HB2.out.size _).alloc (by have := HB2.out.size; simp; omega) _ | exact HB2.out.alloc HB2.out.size _⟩

set_option maxRecDepth 100000 in
set_option maxHeartbeats 1000000 in
theorem check_count (ao : Option Addr) (len cap : Nat) (hlen : len ≤ maxLen) (P : Nat → PartD) (da : Option Addr) (dlen dcap : Nat) (z : Nat → Int) (aa : Option Addr) (alen acap : Nat) (az : Nat → Int) (k j : Nat) (fuel : Int) (w : World) (hl : Lies w) (hin : Parts w ao len P) (hd : Ints w da dlen z) (er : dataFault P len z dlen = 0) (hk : k < len) (hj : j < (P k).el) (hal : alen ≤ maxLen) (hn : (alen : Int) ≠ (P k).prs j) :
    Calls Tryd.prog 22 #[.agg #[.slice ao len cap], .slice da dlen dcap, .int .i64 k, .int .i64 j, .slice aa alen acap, .int .i64 fuel] w fun e w' => e = .returned (.int .i64 7) ∧ Below w.heap.size w w' := by
  have h5 := (imageFault_zero (dataFault_zero er).1).1
  have hp := part_sure (first_zero (imageFault_zero (dataFault_zero er).1).2 k hk)
  have hb0 := below1 w (.cells #[.slice ao len cap] 24)
  have k31 : ∀ W, Below w.heap.size w W → _ := fun W hb => Data.checkData ao len cap hlen P da dlen dcap z W (Lies_below hl hb) (Parts_below hin hb) (Ints_below hd hb)
  rw [er] at k31
  have k33 : ∀ W, Below w.heap.size w W → _ := fun W hb => entryOf_ok ao len cap h5 P k j hk hj hp.2.1 W (Parts_below hin hb)
  obtain ⟨at_, eat⟩ : ∃ x, x = (P k).ats j := ⟨_, rfl⟩
  obtain ⟨pr, epr⟩ : ∃ x, x = (P k).prs j := ⟨_, rfl⟩
  rw [← eat, ← epr] at k33
  rw [← epr] at hn
  have K31 : Hid _ := k31
  have K33 : Hid _ := k33
  have HB0 : Hid _ := hb0
  have hne : ((alen : Int) == pr) = false := by simpa using hn
  rcases (show (alen : Int) < pr ∨ pr < (alen : Int) by omega) with c0 | c0
  all_goals
    clear k31 k33 hb0 hl hin hd er hlen h5 hp hk hj eat epr hn
    go_enter Tryd.func22, Tryd.ntmps22
    go_wp2_with (first
      | (go_at_call 31; refine (K31.out _ HB0.out).mono ?_; rintro e w1 ⟨rfl, hb1⟩; have q0 := box1 hb1; have hb2 := HB0.out.trans (hb1.mono HB0.out.size); have HB2 : Hid _ := hb2; clear hb1 hb2)
      | (go_at_call 33; refine (K33.out _ HB2.out).mono ?_; rintro e w2 ⟨rfl, rfl⟩))
    go_ret
    exact ⟨rfl, by first | exact (HB2.out.alloc HB2.out.size _).alloc (by have := HB2.out.size; simp; omega) _ | exact HB2.out.alloc HB2.out.size _⟩

set_option maxRecDepth 100000 in
set_option maxHeartbeats 1000000 in
theorem check_fuel (ao : Option Addr) (len cap : Nat) (hlen : len ≤ maxLen) (P : Nat → PartD) (da : Option Addr) (dlen dcap : Nat) (z : Nat → Int) (aa : Option Addr) (alen acap : Nat) (az : Nat → Int) (k j : Nat) (fuel : Int) (w : World) (hl : Lies w) (hin : Parts w ao len P) (hd : Ints w da dlen z) (er : dataFault P len z dlen = 0) (hk : k < len) (hj : j < (P k).el) (hn : (alen : Int) = (P k).prs j) (hf : ¬ (0 ≤ fuel ∧ fuel ≤ 100000)) :
    Calls Tryd.prog 22 #[.agg #[.slice ao len cap], .slice da dlen dcap, .int .i64 k, .int .i64 j, .slice aa alen acap, .int .i64 fuel] w fun e w' => e = .returned (.int .i64 2) ∧ Below w.heap.size w w' := by
  have h5 := (imageFault_zero (dataFault_zero er).1).1
  have hp := part_sure (first_zero (imageFault_zero (dataFault_zero er).1).2 k hk)
  have he := entry_sure (first_zero hp.2.2.2 j hj)
  have hb0 := below1 w (.cells #[.slice ao len cap] 24)
  have k31 : ∀ W, Below w.heap.size w W → _ := fun W hb => Data.checkData ao len cap hlen P da dlen dcap z W (Lies_below hl hb) (Parts_below hin hb) (Ints_below hd hb)
  rw [er] at k31
  have k33 : ∀ W, Below w.heap.size w W → _ := fun W hb => entryOf_ok ao len cap h5 P k j hk hj hp.2.1 W (Parts_below hin hb)
  obtain ⟨at_, eat⟩ : ∃ x, x = (P k).ats j := ⟨_, rfl⟩
  rw [← eat, ← hn] at k33
  have halI : (alen : Int) ≤ 4 := by omega
  have K31 : Hid _ := k31
  have K33 : Hid _ := k33
  have HB0 : Hid _ := hb0
  rcases (show fuel < 0 ∨ (0 ≤ fuel ∧ 100000 < fuel) by omega) with c0 | ⟨c0, c1⟩
  all_goals
    clear k31 k33 hb0 hl hin hd er hlen h5 hp he hk hj eat hn hf
    go_enter Tryd.func22, Tryd.ntmps22
    go_wp2_with (first
      | (go_at_call 31; refine (K31.out _ HB0.out).mono ?_; rintro e w1 ⟨rfl, hb1⟩; have q0 := box1 hb1; have hb2 := HB0.out.trans (hb1.mono HB0.out.size); have HB2 : Hid _ := hb2; clear hb1 hb2)
      | (go_at_call 33; refine (K33.out _ HB2.out).mono ?_; rintro e w2 ⟨rfl, rfl⟩))
    go_ret
    exact ⟨rfl, by first | exact (HB2.out.alloc HB2.out.size _).alloc (by have := HB2.out.size; simp; omega) _ | exact HB2.out.alloc HB2.out.size _⟩

set_option maxRecDepth 100000 in
set_option maxHeartbeats 1000000 in
theorem check_word (ao : Option Addr) (len cap : Nat) (hlen : len ≤ maxLen) (P : Nat → PartD) (da : Option Addr) (dlen dcap : Nat) (z : Nat → Int) (aa : Option Addr) (alen acap : Nat) (az : Nat → Int) (k j : Nat) (fuel : Int) (w : World) (hl : Lies w) (hin : Parts w ao len P) (hd : Ints w da dlen z) (ha : Ints w aa alen az) (er : dataFault P len z dlen = 0) (hk : k < len) (hj : j < (P k).el) (hn : (alen : Int) = (P k).prs j) (hf0 : 0 ≤ fuel) (hf1 : fuel ≤ 100000) (hw : first (fun i => wordFault (az i)) alen ≠ 0) :
    Calls Tryd.prog 22 #[.agg #[.slice ao len cap], .slice da dlen dcap, .int .i64 k, .int .i64 j, .slice aa alen acap, .int .i64 fuel] w fun e w' => e = .returned (.int .i64 2) ∧ Below w.heap.size w w' := by
  have h5 := (imageFault_zero (dataFault_zero er).1).1
  have hp := part_sure (first_zero (imageFault_zero (dataFault_zero er).1).2 k hk)
  have he := entry_sure (first_zero hp.2.2.2 j hj)
  have hb0 := below1 w (.cells #[.slice ao len cap] 24)
  have k31 : ∀ W, Below w.heap.size w W → _ := fun W hb => Data.checkData ao len cap hlen P da dlen dcap z W (Lies_below hl hb) (Parts_below hin hb) (Ints_below hd hb)
  rw [er] at k31
  have k33 : ∀ W, Below w.heap.size w W → _ := fun W hb => entryOf_ok ao len cap h5 P k j hk hj hp.2.1 W (Parts_below hin hb)
  have keepA : ∀ w', Below w.heap.size w w' → Ints w' aa alen az := fun w' hb => Ints_below ha hb
  obtain ⟨at_, eat⟩ : ∃ x, x = (P k).ats j := ⟨_, rfl⟩
  rw [← eat, ← hn] at k33
  have halI : (alen : Int) ≤ 4 := by omega
  obtain ⟨f, ef⟩ : ∃ f : Nat → Int, f = fun i => wordFault (az i) := ⟨_, rfl⟩
  rw [← ef] at hw
  have HW : Hid (first f alen ≠ 0) := hw
  have FW : Hid (∀ i, f i = wordFault (az i)) := fun i => by rw [ef]
  have K31 : Hid _ := k31
  have K33 : Hid _ := k33
  have KA : Hid _ := keepA
  have HB0 : Hid _ := hb0
  clear k31 k33 keepA hb0 hl hin hd ha er hk hj hw hp he eat hlen h5 hn ef
  go_enter Tryd.func22, Tryd.ntmps22
  go_wp2_with (first
    | (go_at_call 31; refine (K31.out _ HB0.out).mono ?_; rintro e w1 ⟨rfl, hb1⟩; have q0 := box1 hb1; have hb2 := HB0.out.trans (hb1.mono HB0.out.size); have HB2 : Hid _ := hb2; clear hb1 hb2)
    | (go_at_call 33; refine (K33.out _ HB2.out).mono ?_; rintro e w2 ⟨rfl, rfl⟩))
  go_loopw [47] (fun i wr => ∃ m : Nat, m ≤ alen ∧ i = .int .i64 m ∧ Hid (first f m = 0) ∧ Below w.heap.size w wr) (fun i _ => alen - (intOf i).toNat)
  case atStart => exact ⟨0, Nat.zero_le _, rfl, rfl, by first | exact (HB2.out.alloc HB2.out.size _).alloc (by have := HB2.out.size; simp; omega) _ | exact HB2.out.alloc HB2.out.size _⟩
  case round =>
    obtain ⟨m, hm, rfl, HZ, hbr⟩ := hrel
    have HBR : Hid _ := hbr
    by_cases hml : m < alen
    · obtain ⟨bl, off, rfl, t⟩ := KA.out _ hbr m hml
      have s0 := t m hml
      obtain ⟨x, ex⟩ : ∃ x, x = az m := ⟨_, rfl⟩
      rw [← ex] at s0
      have EX : Hid (f m = wordFault x) := by rw [FW.out m, ex]; exact (rfl : wordFault (az m) = _)
      have hmI : (m : Int) < alen := by omega
      clear ex t hbr
      by_cases hx : 0 ≤ x ∧ x ≤ 65535
      · have d : decide (0 ≤ x ∧ x ≤ 65535) = true := decide_eq_true hx
        have e2 : Hid (wordFault x = 0) := if_pos hx
        obtain ⟨hx0, hx1⟩ := hx
        go_wp2_with (go_at_call 21; refine (is _ _).mono ?_; rintro e w' ⟨rfl, rfl⟩)
        go_roundw
        case rel => exact ⟨m + 1, by omega, by go_num, by rw [first_succ HZ.out, EX.out]; exact e2.out, HBR.out⟩
        case measure => simp [intOf]; omega
      · have d : decide (0 ≤ x ∧ x ≤ 65535) = false := decide_eq_false hx
        clear hx
        go_wp2_with (go_at_call 21; refine (is _ _).mono ?_; rintro e w' ⟨rfl, rfl⟩)
        go_ret
        exact ⟨rfl, HBR.out⟩
    · obtain rfl : m = alen := by omega
      exact absurd HZ.out HW.out

/-- P4.1: what is refused -/
def runFault (P : Nat → PartD) (len : Nat) (z : Nat → Int) (dlen : Nat) (p en : Int) (az : Nat → Int) (alen : Nat) (fuel : Int) : Int :=
  if dataFault P len z dlen = 0 then
    if (0 ≤ p ∧ p < len) ∧ (0 ≤ en ∧ en < (P p.toNat).el) then
      if (alen : Int) = (P p.toNat).prs en.toNat then
        if 0 ≤ fuel ∧ fuel ≤ 100000 then (if first (fun i => wordFault (az i)) alen = 0 then 0 else 2)
        else 2
      else 7
    else 5
  else dataFault P len z dlen

theorem check_bad (ao : Option Addr) (len cap : Nat) (hlen : len ≤ maxLen) (P : Nat → PartD) (da : Option Addr) (dlen dcap : Nat) (z : Nat → Int) (aa : Option Addr) (alen acap : Nat) (az : Nat → Int) (p en fuel : Int) (w : World) (hl : Lies w) (hin : Parts w ao len P) (hd : Ints w da dlen z) (ha : Ints w aa alen az) (hal : alen ≤ maxLen) (hr : runFault P len z dlen p en az alen fuel ≠ 0) :
    Calls Tryd.prog 22 #[.agg #[.slice ao len cap], .slice da dlen dcap, .int .i64 p, .int .i64 en, .slice aa alen acap, .int .i64 fuel] w fun e w' => e = .returned (.int .i64 (runFault P len z dlen p en az alen fuel)) ∧ Below w.heap.size w w' := by
  unfold runFault at hr ⊢
  by_cases er : dataFault P len z dlen = 0
  · rw [if_pos er] at hr ⊢
    by_cases hno : (0 ≤ p ∧ p < len) ∧ (0 ≤ en ∧ en < (P p.toNat).el)
    · rw [if_pos hno] at hr ⊢
      obtain ⟨k, rfl⟩ : ∃ k : Nat, p = k := ⟨p.toNat, by omega⟩
      obtain ⟨j, rfl⟩ : ∃ j : Nat, en = j := ⟨en.toNat, by omega⟩
      simp only [Int.toNat_natCast] at hno hr ⊢
      have hk : k < len := by omega
      have hj : j < (P k).el := by omega
      by_cases hn : (alen : Int) = (P k).prs j
      · rw [if_pos hn] at hr ⊢
        by_cases hf : 0 ≤ fuel ∧ fuel ≤ 100000
        · rw [if_pos hf] at hr ⊢
          by_cases hw : first (fun i => wordFault (az i)) alen = 0
          · rw [if_pos hw] at hr
            exact absurd rfl hr
          · rw [if_neg hw]
            exact check_word ao len cap hlen P da dlen dcap z aa alen acap az k j fuel w hl hin hd ha er hk hj hn hf.1 hf.2 hw
        · rw [if_neg hf]
          exact check_fuel ao len cap hlen P da dlen dcap z aa alen acap az k j fuel w hl hin hd er hk hj hn hf
      · rw [if_neg hn]
        exact check_count ao len cap hlen P da dlen dcap z aa alen acap az k j fuel w hl hin hd er hk hj hal hn
    · rw [if_neg hno]
      exact check_none ao len cap hlen P da dlen dcap z aa alen acap az p en fuel w hl hin hd er hno
  · rw [if_neg er]
    exact check_data ao len cap hlen P da dlen dcap z aa alen acap az p en fuel w hl hin hd _ rfl (by simpa using er)

set_option maxRecDepth 100000 in
set_option maxHeartbeats 1000000 in
/-- mach.Run refuses what check refuses -/
theorem run_bad (ao : Option Addr) (len cap : Nat) (hlen : len ≤ maxLen) (P : Nat → PartD) (da : Option Addr) (dlen dcap : Nat) (z : Nat → Int) (aa : Option Addr) (alen acap : Nat) (az : Nat → Int) (p en fuel : Int) (w : World) (hl : Lies w) (hin : Parts w ao len P) (hd : Ints w da dlen z) (ha : Ints w aa alen az) (hal : alen ≤ maxLen) (r : Int) (hrr : runFault P len z dlen p en az alen fuel = r) (hr : (r == 0) = false) :
    Calls Tryd.prog 14 #[.agg #[.slice ao len cap], .slice da dlen dcap, .int .i64 p, .int .i64 en, .slice aa alen acap, .int .i64 fuel] w fun e w' => e = .returned (.tuple #[.agg #[.int .i64 0, .int .i64 0, .slice none 0 0, .slice none 0 0, .slice none 0 0], .int .i64 r]) ∧ Below w.heap.size w w' := by
  have hb0 := below2 w (.cells #[.slice ao len cap] 24) (.cells #[.int .i64 0, .int .i64 0, .slice none 0 0, .slice none 0 0, .slice none 0 0] 41)
  have k22 : ∀ W, Below w.heap.size w W → Calls Tryd.prog 22 #[.agg #[.slice ao len cap], .slice da dlen dcap, .int .i64 p, .int .i64 en, .slice aa alen acap, .int .i64 fuel] W fun e w' => e = .returned (.int .i64 r) ∧ Below W.heap.size W w' := fun W hb => by
    have := check_bad ao len cap hlen P da dlen dcap z aa alen acap az p en fuel W (Lies_below hl hb) (Parts_below hin hb) (Ints_below hd hb) (Ints_below ha hb) hal (by rw [hrr]; simpa using hr)
    rwa [hrr] at this
  have K22 : Hid _ := k22
  have HB0 : Hid _ := hb0
  clear k22 hb0 hl hin hd ha hrr hlen hal
  go_enter Tryd.func14, Tryd.ntmps14
  go_wp2_with (go_at_call 22; refine (K22.out _ HB0.out).mono ?_; rintro e w2 ⟨rfl, hb2⟩; obtain ⟨qm, qo⟩ := boxes2 hb2; have hA := HB0.out.trans (hb2.mono HB0.out.size); have HA : Hid _ := hA; have o := (fun i => cell_of_row w2 (w.heap.size + 1) i _ 41 (0, 0) qo); have o0 : w2.cell? ⟨w.heap.size + 1, 0, none⟩ = some (.int .i64 0) := o 0; have o1 : w2.cell? ⟨w.heap.size + 1, 1, none⟩ = some (.int .i64 0) := o 1; have o2 : w2.cell? ⟨w.heap.size + 1, 2, none⟩ = some (.slice none 0 0) := o 2; have o3 : w2.cell? ⟨w.heap.size + 1, 3, none⟩ = some (.slice none 0 0) := o 3; have o4 : w2.cell? ⟨w.heap.size + 1, 4, none⟩ = some (.slice none 0 0) := o 4; have p0 := frozen_of_row w2 (w.heap.size + 1) 0 _ 41 qo; have p1 := frozen_of_row w2 (w.heap.size + 1) 1 _ 41 qo; have p2 := frozen_of_row w2 (w.heap.size + 1) 2 _ 41 qo; have p3 := frozen_of_row w2 (w.heap.size + 1) 3 _ 41 qo; have p4 := frozen_of_row w2 (w.heap.size + 1) 4 _ 41 qo; clear hb2 hA qo o)
  refine bodyPost_ret (v := .tuple #[.agg #[.int .i64 0, .int .i64 0, .slice none 0 0, .slice none 0 0, .slice none 0 0], .int .i64 r]) (by simp [results, Tryd.results14, go_sem, *]) rfl ⟨rfl, ?_⟩
  have hA := HA.out
  exact ((((hA.setCell (p := ⟨w.heap.size + 1, 0, none⟩) (by simp) _).setCell (p := ⟨w.heap.size + 1, 1, none⟩) (by simp) _).setCell (p := ⟨w.heap.size + 1, 2, none⟩) (by simp) _).setCell (p := ⟨w.heap.size + 1, 3, none⟩) (by simp) _).setCell (p := ⟨w.heap.size + 1, 4, none⟩) (by simp) _
end Go.Proofs.YtmbbkabecipkaacDoor.MBad
