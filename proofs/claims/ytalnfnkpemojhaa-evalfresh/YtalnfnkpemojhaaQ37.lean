/-
  WHAT THE DOCUMENT's UnitFault GIVES, for every unit: the call returns, and lays new memory alone.
  Conditions: what the unit names lies there.
-/
import Derived.Test.YtalnfnkpemojhaaQ36
import Derived.Test.YtalnfnkpemojhaaQ15
namespace Go.Proofs.Ytalnfnkpemojhaa.RefUnit
open Go.RowKit Go.Proofs.Ytalnfnkpemojhaa.Ident Trees Forms UnitCheck

theorem arrayFault_eq (nm : ByteArray) (sz : Int) : arrayFault nm sz = if identB nm = true then if 1 ≤ sz ∧ sz ≤ 10 then 0 else 2 else 4 := rfl

set_option maxRecDepth 20000 in
set_option maxHeartbeats 16000000 in
theorem ref (u : UnitD) (w : World) (hu : UnitLies w u) :
    Calls Try.prog 20 #[.agg #[.string u.name, .slice u.va u.vl u.vc, .slice u.aa u.al u.ac, .slice u.fa u.fl u.fc]] w fun e w' => e = .returned (.int .i64 (unitFault u)) ∧ Below w.heap.size w w' := by
  have UF : Hid (unitFault u = if frontFault u = 0 then if first (fun i => funcFault (u.fs i)) u.fl = 0 then if 300 < wrap64 (many u) then 1 else 0 else first (fun i => funcFault (u.fs i)) u.fl else frontFault u) := (rfl : unitFault u = _)
  have FF : Hid (frontFault u = if identB u.name = true then if u.vl ≤ 8 ∧ u.al ≤ 3 ∧ u.fl ≤ 8 then if namesFault u.vs u.vl = 0 then first (fun i => arrayFault (u.an i) (u.az i)) u.al else namesFault u.vs u.vl else 1 else 4) := (rfl : frontFault u = _)
  have EN : Hid (namesFault u.vs u.vl = first (fun i => if identB (u.vs i) = true then 0 else 4) u.vl) := (rfl : namesFault u.vs u.vl = _)
  have EM : Hid (many u = sum (fun i => count 12 (u.fs i).bl (u.fs i).body) u.fl) := (rfl : many u = _)
  have k16 : ∀ W, _ := fun W => nameMay u.name hu.1.1 W
  have HV : Hid (Strs w u.va u.vl u.vs) := hu.2.1
  have HA : Hid (ARow w u.aa u.al u.an u.az) := hu.2.2.1
  have HR : Hid (FRow w u.fa u.fl u.fs) := hu.2.2.2
  obtain ⟨_, hv, ha, hf⟩ := hu.1
  clear hu
  generalize many u = M at UF EM
  generalize namesFault u.vs u.vl = N at FF EN
  generalize identB u.name = I at k16 FF
  generalize frontFault u = Q at UF FF
  generalize unitFault u = R at UF ⊢
  obtain ⟨name, va, vl, vc, vs, aa, al, ac, an, az, fa, fl, fc, fs⟩ := u
  dsimp only at UF FF EN EM k16 HV HA HR hv ha hf ⊢
  unfold maxLen at hv ha hf
  have hvI : (vl : Int) ≤ 9223372036854775807 := by omega
  have haI : (al : Int) ≤ 9223372036854775807 := by omega
  have hfI : (fl : Int) ≤ 9223372036854775807 := by omega
  obtain ⟨w0, ew0⟩ : ∃ w0, w0 = w.alloc (.cells #[.string name, .slice va vl vc, .slice aa al ac, .slice fa fl fc] 38) := ⟨_, rfl⟩
  have hb0 : Below w.heap.size w w0 := by rw [ew0]; exact below1 w _
  have bx : ∀ W, Below w0.heap.size w0 W → W.cell? ⟨w.heap.size, 0, none⟩ = some (.string name) ∧ W.cell? ⟨w.heap.size, 1, none⟩ = some (.slice va vl vc) ∧ W.cell? ⟨w.heap.size, 2, none⟩ = some (.slice aa al ac) ∧ W.cell? ⟨w.heap.size, 3, none⟩ = some (.slice fa fl fc) := by
    rw [ew0]
    exact fun W hb => box4 hb
  have up : ∀ W, Below w0.heap.size w0 W → Below w.heap.size w W := fun W hb => hb0.trans (hb.mono hb0.size)
  have BX : Hid _ := bx
  have UP : Hid _ := up
  have EW : Hid (w.alloc (.cells #[.string name, .slice va vl vc, .slice aa al ac, .slice fa fl fc] 38) = w0) := ew0.symm
  clear hv ha hf ew0 bx up hb0
  cases I
  · have E : Hid (R = 4) := by rw [UF.out, FF.out]; exact (rfl : _ = _)
    clear UF FF EN EM HV HA HR
    go_enter Try.func20, Try.ntmps20
    go_wp2_with (go_at_call 42; rw [EW.out]; refine (k16 _).mono ?_; rintro e w1 ⟨rfl, hb1⟩)
    go_ret
    exact ⟨by rw [E.out]; rfl, UP.out _ hb1⟩
  · by_cases hs : vl ≤ 8 ∧ al ≤ 3 ∧ fl ≤ 8
    · have FF2 : Hid (Q = if N = 0 then first (fun i => arrayFault (an i) (az i)) al else N) := by rw [FF.out, if_pos rfl, if_pos hs]; exact (rfl : _ = _)
      obtain ⟨hs1, hs2, hs3⟩ := hs
      have h8 : (vl : Int) ≤ 8 := by omega
      have h3 : (al : Int) ≤ 3 := by omega
      have h9 : (fl : Int) ≤ 8 := by omega
      obtain ⟨fv, efv⟩ : ∃ f : Nat → Int, f = fun i => if identB (vs i) = true then 0 else 4 := ⟨_, rfl⟩
      obtain ⟨fA, efA⟩ : ∃ f : Nat → Int, f = fun i => arrayFault (an i) (az i) := ⟨_, rfl⟩
      obtain ⟨fF, efF⟩ : ∃ f : Nat → Int, f = fun i => funcFault (fs i) := ⟨_, rfl⟩
      obtain ⟨fC, efC⟩ : ∃ f : Nat → Nat, f = fun i => count 12 (fs i).bl (fs i).body := ⟨_, rfl⟩
      have HFV : Hid (∀ i, fv i = if identB (vs i) = true then 0 else 4) := fun i => by rw [efv]
      have HFA : Hid (∀ i, fA i = arrayFault (an i) (az i)) := fun i => by rw [efA]
      have HFF : Hid (∀ i, fF i = funcFault (fs i)) := fun i => by rw [efF]
      have HFC : Hid (∀ i, fC i = count 12 (fs i).bl (fs i).body) := fun i => by rw [efC]
      rw [← efv] at EN
      rw [← efA] at FF2
      rw [← efF] at UF
      rw [← efC] at EM
      clear FF hvI haI hfI hs1 hs2 hs3 efv efA efF efC
      go_enter Try.func20, Try.ntmps20
      go_wp2_with (go_at_call 42; rw [EW.out]; refine (k16 _).mono ?_; rintro e w1 ⟨rfl, hb1⟩; obtain ⟨q0, q1, q2, q3⟩ := BX.out _ hb1)
      clear k16 q0 q1 q2 q3
      go_loopw [3] (fun i wr => ∃ k : Nat, k ≤ vl ∧ i = .int .i64 k ∧ first fv k = 0 ∧ Below w0.heap.size w0 wr) (fun i _ => vl - (intOf i).toNat)
      case atStart => exact ⟨0, Nat.zero_le _, rfl, rfl, hb1⟩
      case round =>
        revert wr
        intro w2 hrel
        obtain ⟨k, hk, rfl, hf, hbel⟩ := hrel
        have FK : Hid (first fv k = 0) := hf
        obtain ⟨q0, q1, q2, q3⟩ := BX.out _ hbel
        clear hf hb1
        by_cases hkl : k < vl
        · obtain ⟨⟨bl, off, ea, t0⟩, hz⟩ := Strs_below (UP.out _ hbel) HV.out k hkl
          subst ea
          have FZ := HFV.out k
          have hkI : (k : Int) < vl := by omega
          clear HV HA HR HFV HFA HFF HFC EM
          generalize vs k = y at t0 hz FZ
          rcases Bool.eq_false_or_eq_true (identB y) with hb | hb
          · have ks : ∀ W, Calls Try.prog 42 #[.string y] W fun e w' => e = .returned (.bool true) ∧ Below W.heap.size W w' := fun W => by rw [← hb]; exact nameMay y hz W
            have F0 : Hid (fv k = 0) := by rw [FZ, hb]; exact (rfl : _ = _)
            clear FZ hb UF FF2 EN
            go_wp2_with (go_at_call 42; refine (ks _).mono ?_; rintro e w3 ⟨rfl, hb3⟩; have hb4 := hbel.trans (hb3.mono hbel.size))
            go_roundw
            case rel => exact ⟨k + 1, by omega, by go_num, by rw [first_succ FK.out]; exact F0.out, hb4⟩
            case measure => simp [intOf]; omega
          · have ks : ∀ W, Calls Try.prog 42 #[.string y] W fun e w' => e = .returned (.bool false) ∧ Below W.heap.size W w' := fun W => by rw [← hb]; exact nameMay y hz W
            have F4 : fv k = 4 := by rw [FZ, hb]; rfl
            have N4 : N = 4 := by rw [EN.out, first_stops hkl FK.out (by rw [F4]; decide), F4]
            have E : Hid (R = 4) := by rw [UF.out, FF2.out, N4]; exact (rfl : _ = _)
            clear FZ hb F4 N4 UF FF2 EN
            go_wp2_with (go_at_call 42; refine (ks _).mono ?_; rintro e w3 ⟨rfl, hb3⟩; have hb4 := hbel.trans (hb3.mono hbel.size))
            go_ret
            exact ⟨by rw [E.out]; rfl, UP.out _ hb4⟩
        · obtain rfl : k = vl := by omega
          have N0 : N = 0 := by rw [EN.out, FK.out]
          have FF3 : Hid (Q = first fA al) := by rw [FF2.out, N0]; exact (rfl : _ = _)
          clear N0 FF2 EN FK HV HFV
          go_wp2
          clear q0 q1 q2 q3
          go_loopw [4] (fun i wr => ∃ j : Nat, j ≤ al ∧ i = .int .i64 j ∧ first fA j = 0 ∧ Below w0.heap.size w0 wr) (fun i _ => al - (intOf i).toNat)
          case atStart => exact ⟨0, Nat.zero_le _, rfl, rfl, hbel⟩
          case round =>
            revert wr
            intro w3 hrel
            clear hbel
            obtain ⟨j, hj, rfl, hf, hbel⟩ := hrel
            have FJ : Hid (first fA j = 0) := hf
            obtain ⟨q0, q1, q2, q3⟩ := BX.out _ hbel
            clear hf
            by_cases hjl : j < al
            · obtain ⟨⟨bl, off, ea, t0, t1⟩, hz⟩ := ARow_below (UP.out _ hbel) HA.out j hjl
              subst ea
              have FZ := HFA.out j
              rw [arrayFault_eq] at FZ
              have hjI : (j : Int) < al := by omega
              clear HA HR HFA HFF HFC EM
              have cells : ∀ W, Below w3.heap.size w3 W → W.cell? ⟨bl, off + j * 2, none⟩ = some (.string (an j)) ∧ W.cell? ⟨bl, off + j * 2 + 1, none⟩ = some (.int .i64 (az j)) := fun W hb => by
                have h0 := World.block_lt_of_cell? w3 _ t0
                exact ⟨(hb.cell h0).trans t0, (hb.cell (p := ⟨bl, off + j * 2 + 1, none⟩) h0).trans t1⟩
              generalize an j = y at t0 hz FZ cells
              generalize az j = m at t1 FZ cells
              have CELLS : Hid _ := cells
              clear cells
              rcases Bool.eq_false_or_eq_true (identB y) with hb | hb
              · have ks : ∀ W, Calls Try.prog 42 #[.string y] W fun e w' => e = .returned (.bool true) ∧ Below W.heap.size W w' := fun W => by rw [← hb]; exact nameMay y hz W
                rw [hb, if_pos rfl] at FZ
                by_cases hm : 1 ≤ m ∧ m ≤ 10
                · have F0 : Hid (fA j = 0) := by rw [FZ, if_pos hm]; exact (rfl : _ = _)
                  have dm : decide (1 ≤ m ∧ m ≤ 10) = true := decide_eq_true hm
                  have kn : ∀ W, Calls Try.prog 43 #[.int .i64 m, .int .i64 1, .int .i64 10] W fun e w' => e = .returned (.bool true) ∧ w' = W := fun W => by rw [← dm]; exact isIn m 1 10 W
                  clear FZ hb hm dm UF FF3
                  go_wp2_with (first
                    | (go_at_call 42; refine (ks _).mono ?_; rintro e w4 ⟨rfl, hb3⟩; have hb4 := hbel.trans (hb3.mono hbel.size); clear q0 q1 q2 q3; obtain ⟨q0, q1, q2, q3⟩ := BX.out _ hb4; obtain ⟨r0, r1⟩ := CELLS.out _ hb3)
                    | (go_at_call 43; refine (kn _).mono ?_; rintro e w' ⟨rfl, hw'⟩; rw [hw']; clear hw' w'))
                  go_roundw
                  case rel => exact ⟨j + 1, by omega, by go_num, by rw [first_succ FJ.out]; exact F0.out, hb4⟩
                  case measure => simp [intOf]; omega
                · have F2 : fA j = 2 := by rw [FZ, if_neg hm]
                  have E : Hid (R = 2) := by rw [UF.out, FF3.out, first_stops hjl FJ.out (by rw [F2]; decide), F2]; exact (rfl : _ = _)
                  have dm : decide (1 ≤ m ∧ m ≤ 10) = false := decide_eq_false hm
                  have kn : ∀ W, Calls Try.prog 43 #[.int .i64 m, .int .i64 1, .int .i64 10] W fun e w' => e = .returned (.bool false) ∧ w' = W := fun W => by rw [← dm]; exact isIn m 1 10 W
                  clear FZ hb hm dm F2 UF FF3
                  go_wp2_with (first
                    | (go_at_call 42; refine (ks _).mono ?_; rintro e w4 ⟨rfl, hb3⟩; have hb4 := hbel.trans (hb3.mono hbel.size); clear q0 q1 q2 q3; obtain ⟨q0, q1, q2, q3⟩ := BX.out _ hb4; obtain ⟨r0, r1⟩ := CELLS.out _ hb3)
                    | (go_at_call 43; refine (kn _).mono ?_; rintro e w' ⟨rfl, hw'⟩; rw [hw']; clear hw' w'))
                  go_ret
                  exact ⟨by rw [E.out]; rfl, UP.out _ hb4⟩
              · have ks : ∀ W, Calls Try.prog 42 #[.string y] W fun e w' => e = .returned (.bool false) ∧ Below W.heap.size W w' := fun W => by rw [← hb]; exact nameMay y hz W
                have F4 : fA j = 4 := by rw [FZ, hb]; rfl
                have E : Hid (R = 4) := by rw [UF.out, FF3.out, first_stops hjl FJ.out (by rw [F4]; decide), F4]; exact (rfl : _ = _)
                clear FZ hb F4 UF FF3
                go_wp2_with (go_at_call 42; refine (ks _).mono ?_; rintro e w4 ⟨rfl, hb3⟩; have hb4 := hbel.trans (hb3.mono hbel.size))
                go_ret
                exact ⟨by rw [E.out]; rfl, UP.out _ hb4⟩
            · obtain rfl : j = al := by omega
              have UF2 : Hid (R = if first fF fl = 0 then if 300 < wrap64 (M : Nat) then 1 else 0 else first fF fl) := by rw [UF.out, FF3.out, FJ.out, if_pos rfl]; exact (rfl : _ = _)
              clear UF FF3 FJ HA HFA
              go_wp2
              clear q0 q1 q2 q3
              go_loopw [5, 6] (fun v i wr => ∃ (k : Nat) (m : Int), k ≤ fl ∧ i = .int .i64 k ∧ v = .int .i64 m ∧ m = wrap64 ((sum fC k : Nat) : Int) ∧ first fF k = 0 ∧ Below w0.heap.size w0 wr) (fun _ i _ => fl - (intOf i).toNat)
              case atStart => exact ⟨0, 0, Nat.zero_le _, rfl, rfl, (Count.wrap_len (n := 0) (by decide)).symm, rfl, hbel⟩
              case round =>
                revert wr
                intro w4 hrel
                clear hbel
                obtain ⟨k, m, hk, rfl, rfl, em, hf, hbel⟩ := hrel
                have EMM : Hid (m = wrap64 ((sum fC k : Nat) : Int)) := em
                have FK : Hid (first fF k = 0) := hf
                obtain ⟨q0, q1, q2, q3⟩ := BX.out _ hbel
                clear hf em
                by_cases hkl : k < fl
                · obtain ⟨⟨bl, off, ea, t0, t1, t2, t3⟩, hS⟩ := FRow_below (UP.out _ hbel) HR.out k hkl
                  have hkI : (k : Int) < fl := by omega
                  obtain ⟨w5, ew5⟩ : ∃ w5, w5 = w4.alloc (.cells #[.string (fs k).name, .bool (fs k).op, .slice (fs k).pa (fs k).pl (fs k).pc, .slice (fs k).ba (fs k).bl (fs k).bc] 52) := ⟨_, rfl⟩
                  have hb5 : Below w4.heap.size w4 w5 := by rw [ew5]; exact below1 w4 _
                  have bx5 : ∀ W, Below w5.heap.size w5 W → W.cell? ⟨w4.heap.size, 0, none⟩ = some (.string (fs k).name) ∧ W.cell? ⟨w4.heap.size, 1, none⟩ = some (.bool (fs k).op) ∧ W.cell? ⟨w4.heap.size, 2, none⟩ = some (.slice (fs k).pa (fs k).pl (fs k).pc) ∧ W.cell? ⟨w4.heap.size, 3, none⟩ = some (.slice (fs k).ba (fs k).bl (fs k).bc) := by
                    rw [ew5]
                    exact fun W hb => box4 hb
                  have up5 : ∀ W, Below w5.heap.size w5 W → Below w4.heap.size w4 W := fun W hb => hb5.trans (hb.mono hb5.size)
                  have UP5 : Hid (∀ W, Below w5.heap.size w5 W → Below w0.heap.size w0 W) := fun W hb => hbel.trans ((up5 W hb).mono hbel.size)
                  have k16' : ∀ W, _ := fun W => nameMay (fs k).name hS.1 W
                  have HP : Hid (Strs w4 (fs k).pa (fs k).pl (fs k).ps) := hS.2.2.2.1
                  have UP4 : Hid _ := up5
                  have k35 : ∀ W, Below w5.heap.size w5 W → _ := fun W hb => RefStmts.any 12 1 W (fs k).ba (fs k).bl (fs k).bc (fs k).body (by decide) (by decide) hS.2.2.1 (SRow_below (up5 W hb) hS.2.2.2.2)
                  obtain ⟨gk, egk⟩ : ∃ gk, gk = fF k := ⟨_, rfl⟩
                  have GK : gk = if identB (fs k).name = true then if (fs k).pl ≤ 4 then if namesFault (fs k).ps (fs k).pl = 0 then stmtsFault 12 (fs k).bl (fs k).body else namesFault (fs k).ps (fs k).pl else 1 else 4 := by rw [egk, HFF.out]; rfl
                  have ENP : Hid (namesFault (fs k).ps (fs k).pl = first (fun i => if identB ((fs k).ps i) = true then 0 else 4) (fs k).pl) := (rfl : namesFault (fs k).ps (fs k).pl = _)
                  obtain ⟨S, eS⟩ : ∃ S, S = stmtsFault 12 (fs k).bl (fs k).body := ⟨_, rfl⟩
                  obtain ⟨cS, ecS⟩ : ∃ cS, cS = RefStmts.counted 12 (fs k).bl (fs k).body := ⟨_, rfl⟩
                  have RET : Hid (∀ v, gk = v → v ≠ 0 → R = v) := fun v hv h0 => by
                    have e : first fF fl = v := by rw [first_stops hkl FK.out (by rw [← egk, hv]; exact h0), ← egk, hv]
                    rw [UF2.out, e, if_neg h0]
                  have NEXT : Hid (gk = 0 → S = 0 → wrap64 (m + cS) = wrap64 ((sum fC (k + 1) : Nat) : Int) ∧ first fF (k + 1) = 0) := fun h0 hS0 => by
                    refine ⟨?_, by rw [first_succ FK.out, ← egk, h0]⟩
                    have c1 : cS = wrap64 (count 12 (fs k).bl (fs k).body : Nat) := by rw [ecS, RefStmts.counted, ← eS, if_pos hS0]
                    have e : ((sum fC k : Nat) : Int) + (count 12 (fs k).bl (fs k).body : Int) = ((sum fC (k + 1) : Nat) : Int) := by
                      rw [show sum fC (k + 1) = sum fC k + fC k from rfl, HFC.out k]
                      omega
                    rw [EMM.out, c1, Count.wrap_add2, e]
                  rw [← eS, ← ecS] at k35
                  rw [← eS] at GK
                  have hplM := hS.2.1
                  unfold maxLen at hplM
                  have ipl : ((fs k).pl : Int) ≤ 9223372036854775807 := by omega
                  have EW5' := ew5.symm
                  clear ew5 hb5 up5 hS egk eS ecS hplM HR HFF HFC EMM FK UF2 EM BX
                  generalize identB (fs k).name = I2 at k16' GK
                  generalize namesFault (fs k).ps (fs k).pl = N2 at GK ENP
                  generalize fs k = y at t0 t1 t2 t3 bx5 k16' HP k35 GK ENP ipl EW5'
                  obtain ⟨yname, op, pa, pl, pc, ps, ba, bl', bc, body⟩ := y
                  subst ea
                  dsimp only at t0 t1 t2 t3 bx5 k16' HP k35 GK ENP ipl EW5'
                  have BX5 : Hid _ := bx5
                  have K35 : Hid _ := k35
                  have EW5 : Hid _ := EW5'
                  clear bx5 k35 EW5'
                  cases I2
                  · have E : Hid (R = 4) := RET.out 4 (by rw [GK]; rfl) (by decide)
                    clear GK RET NEXT ENP HP K35
                    go_wp2_with (go_at_call 42; rw [EW5.out]; refine (k16' _).mono ?_; rintro e w6 ⟨rfl, hb6⟩)
                    go_ret
                    exact ⟨by rw [E.out]; rfl, UP.out _ (UP5.out _ hb6)⟩
                  · by_cases hp : pl ≤ 4
                    · have G2 : Hid (gk = if N2 = 0 then S else N2) := by rw [GK, if_pos rfl, if_pos hp]; exact (rfl : _ = _)
                      have hp4 : (pl : Int) ≤ 4 := by omega
                      obtain ⟨fp, efp⟩ : ∃ f : Nat → Int, f = fun i => if identB (ps i) = true then 0 else 4 := ⟨_, rfl⟩
                      have HFP : Hid (∀ i, fp i = if identB (ps i) = true then 0 else 4) := fun i => by rw [efp]
                      rw [← efp] at ENP
                      clear GK hp ipl efp
                      go_wp2_with (go_at_call 42; rw [EW5.out]; refine (k16' _).mono ?_; rintro e w6 ⟨rfl, hb6⟩; obtain ⟨p0, p1, p2, p3⟩ := BX5.out _ hb6)
                      clear k16' p0 p1 p2 p3 q0 q1 q2 q3 t0 t1 t2 t3
                      go_loopw [8] (fun i wr => ∃ j : Nat, j ≤ pl ∧ i = .int .i64 j ∧ first fp j = 0 ∧ Below w5.heap.size w5 wr) (fun i _ => pl - (intOf i).toNat)
                      case atStart => exact ⟨0, Nat.zero_le _, rfl, rfl, hb6⟩
                      case round =>
                        revert wr
                        intro w7 hrel
                        clear hb6
                        obtain ⟨j, hj, rfl, hf, hb7⟩ := hrel
                        have FJ : Hid (first fp j = 0) := hf
                        obtain ⟨p0, p1, p2, p3⟩ := BX5.out _ hb7
                        clear hf
                        by_cases hjl : j < pl
                        · obtain ⟨⟨b2, off2, ea2, t0⟩, hz⟩ := Strs_below (UP4.out _ hb7) HP.out j hjl
                          subst ea2
                          have FZ := HFP.out j
                          have hjI : (j : Int) < pl := by omega
                          clear HP HFP K35
                          generalize ps j = z at t0 hz FZ
                          rcases Bool.eq_false_or_eq_true (identB z) with hb | hb
                          · have ks : ∀ W, Calls Try.prog 42 #[.string z] W fun e w' => e = .returned (.bool true) ∧ Below W.heap.size W w' := fun W => by rw [← hb]; exact nameMay z hz W
                            have F0 : Hid (fp j = 0) := by rw [FZ, hb]; exact (rfl : _ = _)
                            clear FZ hb
                            go_wp2_with (go_at_call 42; refine (ks _).mono ?_; rintro e w8 ⟨rfl, hb8⟩; have hb9 := hb7.trans (hb8.mono hb7.size))
                            go_roundw
                            case rel => exact ⟨j + 1, by omega, by go_num, by rw [first_succ FJ.out]; exact F0.out, hb9⟩
                            case measure => simp [intOf]; omega
                          · have ks : ∀ W, Calls Try.prog 42 #[.string z] W fun e w' => e = .returned (.bool false) ∧ Below W.heap.size W w' := fun W => by rw [← hb]; exact nameMay z hz W
                            have F4 : fp j = 4 := by rw [FZ, hb]; rfl
                            have N4 : N2 = 4 := by rw [ENP.out, first_stops hjl FJ.out (by rw [F4]; decide), F4]
                            have E : Hid (R = 4) := RET.out 4 (by rw [G2.out, N4]; rfl) (by decide)
                            clear FZ hb F4 N4 G2 ENP RET NEXT
                            go_wp2_with (go_at_call 42; refine (ks _).mono ?_; rintro e w8 ⟨rfl, hb8⟩; have hb9 := hb7.trans (hb8.mono hb7.size))
                            go_ret
                            exact ⟨by rw [E.out]; rfl, UP.out _ (UP5.out _ hb9)⟩
                        · obtain rfl : j = pl := by omega
                          have N0 : N2 = 0 := by rw [ENP.out, FJ.out]
                          have G3 : gk = S := by rw [G2.out, N0]; rfl
                          clear N0 G2 ENP FJ HP HFP
                          by_cases hS : S = 0
                          · obtain ⟨N1, N3⟩ := NEXT.out (by rw [G3, hS]) hS
                            have HN1 : Hid _ := N1
                            have HN3 : Hid _ := N3
                            subst hS
                            clear N1 N3 G3 RET NEXT
                            go_wp2_with (go_at_call 44; refine (K35.out _ hb7).mono ?_; rintro e w8 ⟨rfl, hb8⟩; have hb9 := hb7.trans (hb8.mono hb7.size))
                            go_roundw
                            case rel => exact ⟨k + 1, _, by omega, by go_num, rfl, by first | exact HN1.out | (rw [← HN1.out]; simp only [Count.wrapEq]), HN3.out, UP5.out _ hb9⟩
                            case measure => simp [intOf]; omega
                          · have hS2 : (S == 0) = false := beq_eq_false_iff_ne.2 hS
                            have E : Hid (R = S) := RET.out S G3 hS
                            clear hS G3 RET NEXT
                            go_wp2_with (go_at_call 44; refine (K35.out _ hb7).mono ?_; rintro e w8 ⟨rfl, hb8⟩; have hb9 := hb7.trans (hb8.mono hb7.size))
                            go_ret
                            exact ⟨by rw [E.out]; rfl, UP.out _ (UP5.out _ hb9)⟩
                    · have E : Hid (R = 1) := RET.out 1 (by rw [GK, if_pos rfl, if_neg hp]) (by decide)
                      have hp4 : (4 : Int) < pl := by omega
                      clear GK RET NEXT ENP HP K35 hp
                      go_wp2_with (go_at_call 42; rw [EW5.out]; refine (k16' _).mono ?_; rintro e w6 ⟨rfl, hb6⟩; obtain ⟨p0, p1, p2, p3⟩ := BX5.out _ hb6)
                      go_ret
                      exact ⟨by rw [E.out]; rfl, UP.out _ (UP5.out _ hb6)⟩
                · obtain rfl : k = fl := by omega
                  have UF3 : R = if 300 < m then 1 else 0 := by rw [UF2.out, FK.out, if_pos rfl, EM.out, ← EMM.out]
                  clear UF2 FK EMM EM HR HFF HFC
                  by_cases hm : 300 < m
                  · have E : Hid (R = 1) := by rw [UF3, if_pos hm]; exact (rfl : _ = _)
                    clear UF3
                    go_wp2
                    go_ret
                    exact ⟨by rw [E.out]; rfl, UP.out _ hbel⟩
                  · have E : Hid (R = 0) := by rw [UF3, if_neg hm]; exact (rfl : _ = _)
                    clear UF3
                    go_wp2
                    go_ret
                    exact ⟨by rw [E.out]; rfl, UP.out _ hbel⟩
    · have E : Hid (R = 1) := by rw [UF.out, FF.out, if_pos rfl, if_neg hs]; exact (rfl : _ = _)
      rcases (show (8 : Int) < vl ∨ ((vl : Int) ≤ 8 ∧ (3 : Int) < al) ∨ ((vl : Int) ≤ 8 ∧ (al : Int) ≤ 3 ∧ (8 : Int) < fl) by omega) with c | ⟨c, c1⟩ | ⟨c, c1, c2⟩
      all_goals
        clear UF FF EN EM hs HV HA HR
        go_enter Try.func20, Try.ntmps20
        go_wp2_with (go_at_call 42; rw [EW.out]; refine (k16 _).mono ?_; rintro e w1 ⟨rfl, hb1⟩; obtain ⟨q0, q1, q2, q3⟩ := BX.out _ hb1)
        go_ret
        exact ⟨by rw [E.out]; rfl, UP.out _ hb1⟩
end Go.Proofs.Ytalnfnkpemojhaa.RefUnit
