/-
  WHAT tree.checkHead AND tree.Check GIVE, for every unit: each call returns, and lays new memory alone.
  Conditions: what the unit names lies there.
-/
import Derived.Test.YtgjemlhnlpglbaaDoorR45
namespace Go.Proofs.YtgjemlhnlpglbaaDoor.UnitHead
open Go.RowKit Go.Proofs.YtgjemlhnlpglbaaDoor.Ident Trees Forms UnitCheck

theorem arrayFault_eq (nm : ByteArray) (sz : Int) : arrayFault nm sz = if identB nm = true then if 1 ≤ sz ∧ sz ≤ 10 then 0 else 2 else 4 := rfl

set_option maxHeartbeats 4000000 in
theorem checkHead (u : UnitD) (w : World) (hu : UnitLies w u) :
    Calls Tryd.prog 34 #[.agg #[.string u.name, .slice u.va u.vl u.vc, .slice u.aa u.al u.ac, .slice u.fa u.fl u.fc]] w fun e w' => e = .returned (.int .i64 (frontFault u)) ∧ Below w.heap.size w w' := by
  have FF : Hid (frontFault u = if identB u.name = true then if u.vl ≤ 8 ∧ u.al ≤ 3 ∧ u.fl ≤ 8 then if namesFault u.vs u.vl = 0 then first (fun i => arrayFault (u.an i) (u.az i)) u.al else namesFault u.vs u.vl else 1 else 4) := (rfl : frontFault u = _)
  have NV := namesFault_vals u.vs u.vl
  have k15 : ∀ W, _ := fun W => ident u.name hu.1.1 W
  have k43 : ∀ W, Below w.heap.size w W → _ := fun W hb => idents W u.va u.vl u.vc u.vs hu.1.2.1 (Strs_below hb hu.2.1)
  have HA : Hid (ARow w u.aa u.al u.an u.az) := hu.2.2.1
  obtain ⟨_, hv, ha, hf⟩ := hu.1
  clear hu
  generalize namesFault u.vs u.vl = N at k43 FF NV
  generalize identB u.name = I at k15 FF
  generalize frontFault u = R at FF ⊢
  obtain ⟨name, va, vl, vc, vs, aa, al, ac, an, az, fa, fl, fc, fs⟩ := u
  dsimp only at FF k15 k43 HA hv ha hf ⊢
  unfold maxLen at hv ha hf
  have hvI : (vl : Int) ≤ 9223372036854775807 := by omega
  have haI : (al : Int) ≤ 9223372036854775807 := by omega
  have hfI : (fl : Int) ≤ 9223372036854775807 := by omega
  obtain ⟨w0, ew0⟩ : ∃ w0, w0 = w.alloc (.cells #[.string name, .slice va vl vc, .slice aa al ac, .slice fa fl fc] 41) := ⟨_, rfl⟩
  have hb0 : Below w.heap.size w w0 := by rw [ew0]; exact below1 w _
  have bx : ∀ W, Below w0.heap.size w0 W → W.cell? ⟨w.heap.size, 0, none⟩ = some (.string name) ∧ W.cell? ⟨w.heap.size, 1, none⟩ = some (.slice va vl vc) ∧ W.cell? ⟨w.heap.size, 2, none⟩ = some (.slice aa al ac) ∧ W.cell? ⟨w.heap.size, 3, none⟩ = some (.slice fa fl fc) := by
    rw [ew0]
    exact fun W hb => box4 hb
  have up : ∀ W, Below w0.heap.size w0 W → Below w.heap.size w W := fun W hb => hb0.trans (hb.mono hb0.size)
  have BX : Hid _ := bx
  have UP : Hid _ := up
  have EW : Hid (w.alloc (.cells #[.string name, .slice va vl vc, .slice aa al ac, .slice fa fl fc] 41) = w0) := ew0.symm
  have K43 : Hid _ := k43
  clear hv ha hf k43 ew0 bx up hb0
  cases I
  · have E : Hid (R = 4) := by rw [FF.out]; exact (rfl : _ = _)
    clear FF NV K43 HA
    go_enter Tryd.func34, Tryd.ntmps34
    go_wp2_with (go_at_call 53; rw [EW.out]; refine (k15 _).mono ?_; rintro e w1 ⟨rfl, hb1⟩)
    go_ret
    exact ⟨by rw [E.out]; rfl, UP.out _ hb1⟩
  · by_cases hs : vl ≤ 8 ∧ al ≤ 3 ∧ fl ≤ 8
    · have FF2 : Hid (R = if N = 0 then first (fun i => arrayFault (an i) (az i)) al else N) := by rw [FF.out, if_pos rfl, if_pos hs]; exact (rfl : _ = _)
      obtain ⟨hs1, hs2, hs3⟩ := hs
      have h8 : (vl : Int) ≤ 8 := by omega
      have h3 : (al : Int) ≤ 3 := by omega
      have h9 : (fl : Int) ≤ 8 := by omega
      clear FF hvI haI hfI hs1 hs2 hs3
      rcases NV with rfl | rfl
      · obtain ⟨f, ef⟩ : ∃ f : Nat → Int, f = fun i => arrayFault (an i) (az i) := ⟨_, rfl⟩
        have E : Hid (R = first f al) := by rw [FF2.out, ef]; exact (rfl : _ = _)
        have HF : Hid (∀ i, f i = arrayFault (an i) (az i)) := fun i => by rw [ef]
        clear FF2 ef
        go_enter Tryd.func34, Tryd.ntmps34
        go_wp2_with (first
          | (go_at_call 53; rw [EW.out]; refine (k15 _).mono ?_; rintro e w1 ⟨rfl, hb1⟩; obtain ⟨q0, q1, q2, q3⟩ := BX.out _ hb1)
          | (go_at_call 54; refine (K43.out _ (UP.out _ hb1)).mono ?_; rintro e w2 ⟨rfl, hb2⟩; have hb3 := hb1.trans (hb2.mono hb1.size); clear q0 q1 q2 q3; obtain ⟨q0, q1, q2, q3⟩ := BX.out _ hb3))
        clear k15 K43 q0 q1 q2 q3
        go_loopw [32] (fun i wr => ∃ k : Nat, k ≤ al ∧ i = .int .i64 k ∧ first f k = 0 ∧ Below w.heap.size w wr) (fun i _ => al - (intOf i).toNat)
        case atStart => exact ⟨0, Nat.zero_le _, rfl, rfl, UP.out _ hb3⟩
        case round =>
          obtain ⟨k, hk, rfl, hf, hbel⟩ := hrel
          have FK : Hid (first f k = 0) := hf
          clear hf hb1 hb2 hb3 BX UP EW
          by_cases hkl : k < al
          · obtain ⟨⟨bl, off, ea, t0, t1⟩, hz⟩ := ARow_below hbel HA.out k hkl
            subst ea
            have FZ := HF.out k
            rw [arrayFault_eq] at FZ
            clear HA HF
            generalize an k = y at t0 hz FZ
            generalize az k = m at t1 FZ
            have hb0 := hbel.alloc hbel.size (.cells #[.string y, .int .i64 m] 63)
            rcases Bool.eq_false_or_eq_true (identB y) with hb | hb
            · have ks : ∀ W, Calls Tryd.prog 53 #[.string y] W fun e w' => e = .returned (.bool true) ∧ Below W.heap.size W w' := fun W => by rw [← hb]; exact ident y hz W
              rw [hb, if_pos rfl] at FZ
              by_cases hm : 1 ≤ m ∧ m ≤ 10
              · have F0 : Hid (f k = 0) := by rw [FZ, if_pos hm]; exact (rfl : _ = _)
                obtain ⟨hm1, hm2⟩ := hm
                clear FZ hb
                go_wp2_with (go_at_call 53; refine (ks _).mono ?_; rintro e w1 ⟨rfl, hb1⟩; have hb2 := hb0.trans (hb1.mono hb0.size); obtain ⟨r0, r1⟩ := box2 hb1)
                go_roundw
                case rel => exact ⟨k + 1, by omega, by go_num, by rw [first_succ FK.out]; exact F0.out, hb2⟩
                case measure => simp [intOf]; omega
              · have F2 : f k = 2 := by rw [FZ, if_neg hm]
                have E2 : Hid (R = 2) := by rw [E.out, first_stops hkl FK.out (by rw [F2]; decide), F2]; exact (rfl : _ = _)
                rcases (show m < 1 ∨ (1 ≤ m ∧ 10 < m) by omega) with c | ⟨c, c'⟩
                all_goals
                  clear FZ hb hm F2 E
                  go_wp2_with (go_at_call 53; refine (ks _).mono ?_; rintro e w1 ⟨rfl, hb1⟩; have hb2 := hb0.trans (hb1.mono hb0.size); obtain ⟨r0, r1⟩ := box2 hb1)
                  go_ret
                  exact ⟨by rw [E2.out]; rfl, hb2⟩
            · have ks : ∀ W, Calls Tryd.prog 53 #[.string y] W fun e w' => e = .returned (.bool false) ∧ Below W.heap.size W w' := fun W => by rw [← hb]; exact ident y hz W
              have F4 : f k = 4 := by rw [FZ, hb]; rfl
              have E2 : Hid (R = 4) := by rw [E.out, first_stops hkl FK.out (by rw [F4]; decide), F4]; exact (rfl : _ = _)
              clear FZ hb F4 E
              go_wp2_with (go_at_call 53; refine (ks _).mono ?_; rintro e w1 ⟨rfl, hb1⟩; have hb2 := hb0.trans (hb1.mono hb0.size))
              go_ret
              exact ⟨by rw [E2.out]; rfl, hb2⟩
          · obtain rfl : k = al := by omega
            clear HA HF
            go_wp2
            go_ret
            exact ⟨by rw [E.out, FK.out]; rfl, hbel⟩
      · have E : Hid (R = 4) := by rw [FF2.out]; exact (rfl : _ = _)
        clear FF2 HA
        go_enter Tryd.func34, Tryd.ntmps34
        go_wp2_with (first
          | (go_at_call 53; rw [EW.out]; refine (k15 _).mono ?_; rintro e w1 ⟨rfl, hb1⟩; obtain ⟨q0, q1, q2, q3⟩ := BX.out _ hb1)
          | (go_at_call 54; refine (K43.out _ (UP.out _ hb1)).mono ?_; rintro e w2 ⟨rfl, hb2⟩; have hb3 := hb1.trans (hb2.mono hb1.size)))
        go_ret
        exact ⟨by rw [E.out]; rfl, UP.out _ hb3⟩
    · have E : Hid (R = 1) := by rw [FF.out, if_pos rfl, if_neg hs]; exact (rfl : _ = _)
      rcases (show (8 : Int) < vl ∨ ((vl : Int) ≤ 8 ∧ (3 : Int) < al) ∨ ((vl : Int) ≤ 8 ∧ (al : Int) ≤ 3 ∧ (8 : Int) < fl) by omega) with c | ⟨c, c1⟩ | ⟨c, c1, c2⟩
      all_goals
        clear FF NV hs K43 HA
        go_enter Tryd.func34, Tryd.ntmps34
        go_wp2_with (go_at_call 53; rw [EW.out]; refine (k15 _).mono ?_; rintro e w1 ⟨rfl, hb1⟩; obtain ⟨q0, q1, q2, q3⟩ := BX.out _ hb1)
        go_ret
        exact ⟨by rw [E.out]; rfl, UP.out _ hb1⟩

set_option maxHeartbeats 4000000 in
theorem check (u : UnitD) (w : World) (hu : UnitLies w u) :
    Calls Tryd.prog 15 #[.agg #[.string u.name, .slice u.va u.vl u.vc, .slice u.aa u.al u.ac, .slice u.fa u.fl u.fc]] w fun e w' => e = .returned (.int .i64 (unitFault u)) ∧ Below w.heap.size w w' := by
  have UF : Hid (unitFault u = if frontFault u = 0 then if first (fun i => funcFault (u.fs i)) u.fl = 0 then if 300 < wrap64 (many u) then 1 else 0 else first (fun i => funcFault (u.fs i)) u.fl else frontFault u) := (rfl : unitFault u = _)
  have k32 : ∀ W, Below w.heap.size w W → _ := fun W hb => checkHead u W (UnitLies_below hb hu)
  have k34 : ∀ W, Below w.heap.size w W → first (fun i => funcFault (u.fs i)) u.fl = 0 → Calls Tryd.prog 36 #[.slice u.fa u.fl u.fc] W fun e w' => e = .returned (.int .i64 (wrap64 (many u : Nat))) ∧ Below W.heap.size W w' := fun W hb h0 => countOf W u.fa u.fl u.fc u.fs hu.1.2.2.2 (FRow_below hb hu.2.2.2) h0
  have k33 : ∀ (k : Nat) (W : World), k < u.fl → Below w.heap.size w W → _ := fun k W hk hb => checkFunc (u.fs k) W (FuncLies_below hb (hu.2.2.2 k hk).2)
  have HR : Hid (FRow w u.fa u.fl u.fs) := hu.2.2.2
  obtain ⟨f, ef⟩ : ∃ f : Nat → Int, f = fun i => funcFault (u.fs i) := ⟨_, rfl⟩
  have HF : Hid (∀ i, f i = funcFault (u.fs i)) := fun i => by rw [ef]
  rw [← ef] at UF k34
  have hl := hu.1.2.2.2
  clear ef hu
  generalize many u = M at UF k34
  generalize frontFault u = N at UF k32
  generalize unitFault u = R at UF ⊢
  obtain ⟨name, va, vl, vc, vs, aa, al, ac, an, az, fa, fl, fc, fs⟩ := u
  dsimp only at UF k32 k34 k33 HR HF hl ⊢
  generalize wrap64 (M : Int) = m at UF k34
  unfold maxLen at hl
  have hlI : (fl : Int) ≤ 9223372036854775807 := by omega
  obtain ⟨w0, ew0⟩ : ∃ w0, w0 = w.alloc (.cells #[.string name, .slice va vl vc, .slice aa al ac, .slice fa fl fc] 41) := ⟨_, rfl⟩
  have hb0 : Below w.heap.size w w0 := by rw [ew0]; exact below1 w _
  have bx : ∀ W, Below w0.heap.size w0 W → W.cell? ⟨w.heap.size, 0, none⟩ = some (.string name) ∧ W.cell? ⟨w.heap.size, 1, none⟩ = some (.slice va vl vc) ∧ W.cell? ⟨w.heap.size, 2, none⟩ = some (.slice aa al ac) ∧ W.cell? ⟨w.heap.size, 3, none⟩ = some (.slice fa fl fc) := by
    rw [ew0]
    exact fun W hb => box4 hb
  have up : ∀ W, Below w0.heap.size w0 W → Below w.heap.size w W := fun W hb => hb0.trans (hb.mono hb0.size)
  have BX : Hid _ := bx
  have UP : Hid _ := up
  have EW : Hid (w.alloc (.cells #[.string name, .slice va vl vc, .slice aa al ac, .slice fa fl fc] 41) = w0) := ew0.symm
  have k32' := k32 w0 hb0
  have K33 : Hid _ := k33
  have K34 : Hid _ := k34
  clear hl k32 k33 k34 ew0 bx up hb0
  by_cases hN : N = 0
  · have UF2 : Hid (R = if first f fl = 0 then if 300 < m then 1 else 0 else first f fl) := by rw [UF.out, if_pos hN]; exact (rfl : _ = _)
    subst hN
    clear UF
    go_enter Tryd.func15, Tryd.ntmps15
    go_wp2_with (go_at_call 34; rw [EW.out]; refine k32'.mono ?_; rintro e w1 ⟨rfl, hb1⟩; obtain ⟨q0, q1, q2, q3⟩ := BX.out _ hb1)
    clear k32' q0 q1 q2 q3
    go_loopw [15] (fun i wr => ∃ k : Nat, k ≤ fl ∧ i = .int .i64 k ∧ first f k = 0 ∧ Below w0.heap.size w0 wr) (fun i _ => fl - (intOf i).toNat)
    case atStart => exact ⟨0, Nat.zero_le _, rfl, rfl, hb1⟩
    case round =>
      obtain ⟨k, hk, rfl, hf, hbel⟩ := hrel
      have FK : Hid (first f k = 0) := hf
      clear hf hb1
      by_cases hkl : k < fl
      · obtain ⟨⟨bl, off, ea, t0, t1, t2, t3⟩, _⟩ := FRow_below (UP.out _ hbel) HR.out k hkl
        have kk := fun W h => K33.out k W hkl h
        obtain ⟨r, er⟩ : ∃ r, r = funcFault (fs k) := ⟨_, rfl⟩
        have ER : Hid (r = f k) := er.trans (HF.out k).symm
        rw [← er] at kk
        clear er K33 K34 HF HR
        generalize fs k = y at t0 t1 t2 t3 kk
        have KK : Hid _ := kk
        obtain ⟨yname, op, pa, pl, pc, ps, ba, bl', bc, body⟩ := y
        subst ea
        dsimp only at t0 t1 t2 t3 KK
        have HB : Hid _ := hbel.alloc hbel.size (.cells #[.string yname, .bool op, .slice pa pl pc, .slice ba bl' bc] 37)
        clear kk hbel
        by_cases hr : r = 0
        · subst hr
          go_wp2_with (go_at_call 35; refine (KK.out _ (UP.out _ HB.out)).mono ?_; rintro e w3 ⟨rfl, hb3⟩; have hb4 := HB.out.trans (hb3.mono HB.out.size))
          go_roundw
          case rel => exact ⟨k + 1, by omega, by go_num, by rw [first_succ FK.out]; exact ER.out.symm, hb4⟩
          case measure => simp [intOf]; omega
        · have hr2 : (r == 0) = false := beq_eq_false_iff_ne.2 hr
          have E : Hid (R = r) := by rw [UF2.out, first_stops hkl FK.out (by rw [← ER.out]; exact hr), ← ER.out, if_neg hr]; exact (rfl : _ = _)
          clear hr
          go_wp2_with (go_at_call 35; refine (KK.out _ (UP.out _ HB.out)).mono ?_; rintro e w3 ⟨rfl, hb3⟩; have hb4 := HB.out.trans (hb3.mono HB.out.size))
          go_ret
          exact ⟨by rw [E.out]; rfl, UP.out _ hb4⟩
      · obtain rfl : k = fl := by omega
        have UF3 : Hid (R = if 300 < m then 1 else 0) := by rw [UF2.out, FK.out, if_pos rfl]; exact (rfl : _ = _)
        have kc := fun W h => K34.out W h FK.out
        have KC : Hid _ := kc
        obtain ⟨q0, q1, q2, q3⟩ := BX.out _ hbel
        clear HR HF UF2 K33 K34 kc
        by_cases hm : 300 < m
        · have E : Hid (R = 1) := by rw [UF3.out, if_pos hm]; exact (rfl : _ = _)
          go_wp2_with (go_at_call 36; refine (KC.out _ (UP.out _ hbel)).mono ?_; rintro e w3 ⟨rfl, hb3⟩; have hb4 := hbel.trans (hb3.mono hbel.size))
          go_ret
          exact ⟨by rw [E.out]; rfl, UP.out _ hb4⟩
        · have E : Hid (R = 0) := by rw [UF3.out, if_neg hm]; exact (rfl : _ = _)
          go_wp2_with (go_at_call 36; refine (KC.out _ (UP.out _ hbel)).mono ?_; rintro e w3 ⟨rfl, hb3⟩; have hb4 := hbel.trans (hb3.mono hbel.size))
          go_ret
          exact ⟨by rw [E.out]; rfl, UP.out _ hb4⟩
  · have E : Hid (R = N) := by rw [UF.out, if_neg hN]; exact (rfl : _ = _)
    have hN2 : (N == 0) = false := beq_eq_false_iff_ne.2 hN
    clear UF hN K33 K34 HR HF
    go_enter Tryd.func15, Tryd.ntmps15
    go_wp2_with (go_at_call 34; rw [EW.out]; refine k32'.mono ?_; rintro e w1 ⟨rfl, hb1⟩)
    go_ret
    exact ⟨by rw [E.out]; rfl, UP.out _ hb1⟩
end Go.Proofs.YtgjemlhnlpglbaaDoor.UnitHead
