/-
  WHAT THE DOCUMENT's stmtsFault GIVES, for all statements, at every depth: the call returns, and lays new memory alone.
  Conditions: what the statements name lies there.
-/
import Derived.Test.YtalnfnkpemojhaaQ35
import Derived.Test.YtalnfnkpemojhaaQ14
namespace Go.Proofs.Ytalnfnkpemojhaa.RefStmts
open Go.RowKit Go.Proofs.Ytalnfnkpemojhaa.Ident Trees Forms

/-- what is counted: nothing, where something is refused -/
def counted (d len : Nat) (L : Nat → STree) : Int := if stmtsFault d len L = 0 then wrap64 (count d len L : Nat) else 0

theorem wrap_add3 (a b c : Int) : wrap64 (wrap64 (wrap64 a + wrap64 b) + wrap64 c) = wrap64 (a + b + c) := by
  unfold wrap64; omega

set_option maxRecDepth 20000 in
set_option maxHeartbeats 16000000 in
theorem any : ∀ (d : Nat) (dep : Int) (w : World) (ao : Option Addr) (len cap : Nat) (L : Nat → STree), dep + d = 13 → 1 ≤ dep → len ≤ maxLen → SRow w d ao len L →
    Calls Try.prog 44 #[.slice ao len cap, .int .i64 dep] w fun e w' => e = .returned (.tuple #[.int .i64 (counted d len L), .int .i64 (stmtsFault d len L)]) ∧ Below w.heap.size w w' := by
  intro d
  induction d with
  | zero =>
    intro dep w ao len cap L hd _ _ _
    obtain rfl : dep = 13 := by omega
    clear hd
    go_enter Try.func44, Try.ntmps44
    go_wp2
    go_ret2
    exact ⟨rfl, Below.refl _ _⟩
  | succ d ih =>
    intro dep w ao len cap L hd h1 hl hin
    have hd12 : dep ≤ 12 := by omega
    have IH : Hid (∀ (W : World) (ao : Option Addr) (len cap : Nat) (L : Nat → STree), len ≤ maxLen → SRow W d ao len L → Calls Try.prog 44 #[.slice ao len cap, .int .i64 (dep + 1)] W fun e w' => e = .returned (.tuple #[.int .i64 (counted d len L), .int .i64 (stmtsFault d len L)]) ∧ Below W.heap.size W w') :=
      fun W ao len cap L h h' => ih (dep + 1) W ao len cap L (by omega) (by omega) h h'
    obtain ⟨g, eg⟩ : ∃ g : Nat → Int, g = fun i => stmtFault d (L i) := ⟨_, rfl⟩
    have HG : Hid (∀ i, g i = stmtFault d (L i)) := fun i => by rw [eg]
    obtain ⟨f, ef⟩ : ∃ f : Nat → Nat, f = fun i => count d (L i []).bl (inBody (L i)) + count d (L i []).ll (inElse (L i)) := ⟨_, rfl⟩
    have HF : Hid (∀ i, f i = count d (L i []).bl (inBody (L i)) + count d (L i []).ll (inElse (L i))) := fun i => by rw [ef]
    obtain ⟨RR, eR⟩ : ∃ RR, RR = stmtsFault (d + 1) len L := ⟨_, rfl⟩
    obtain ⟨CC, eC⟩ : ∃ CC, CC = counted (d + 1) len L := ⟨_, rfl⟩
    have ERR : Hid (RR = first g len) := by rw [eR, eg]; exact stmtsFault_succ d len L
    have ECC : Hid (CC = if RR = 0 then wrap64 ((len + sum f len : Nat) : Int) else 0) := by rw [eC, eR, ef]; exact (rfl : counted (d + 1) len L = _)
    rw [← eR, ← eC]
    have HI : Hid (SRow w (d + 1) ao len L) := hin
    unfold maxLen at hl
    have hlI : (len : Int) ≤ 9223372036854775807 := by omega
    clear ih hd eg ef eR eC hin hl
    go_enter Try.func44, Try.ntmps44
    go_wp2
    go_loopw [6, 7] (fun v i wr => ∃ (k : Nat) (m : Int), k ≤ len ∧ i = .int .i64 k ∧ v = .int .i64 m ∧ m = wrap64 ((len + sum f k : Nat) : Int) ∧ first g k = 0 ∧ Below w.heap.size w wr) (fun _ i _ => len - (intOf i).toNat)
    case atStart => exact ⟨0, len, Nat.zero_le _, rfl, rfl, (Count.wrap_len hlI).symm, rfl, Below.refl _ _⟩
    case round =>
      revert wr
      intro w1 hrel
      obtain ⟨k, m, hk, rfl, rfl, em, hf, hbel⟩ := hrel
      have EM : Hid (m = wrap64 ((len + sum f k : Nat) : Int)) := em
      have FK : Hid (first g k = 0) := hf
      clear em hf
      by_cases hkl : k < len
      · obtain ⟨⟨b1, off, ea1, t0, t1, t2, t3, t4⟩, hS⟩ := SRow_below hbel HI.out k hkl
        have hS2 : SLies w1 d (L k) := hS
        have hkI : (k : Int) < len := by omega
        obtain ⟨w2, ew2⟩ : ∃ w2, w2 = w1.alloc (.cells #[.int .i64 (L k []).kind, .string (L k []).s, .slice (L k []).ea (L k []).el (L k []).ec, .slice (L k []).ba (L k []).bl (L k []).bc, .slice (L k []).la (L k []).ll (L k []).lc] 81) := ⟨_, rfl⟩
        have hb2 : Below w1.heap.size w1 w2 := by rw [ew2]; exact below1 w1 _
        have bx : ∀ W, Below w2.heap.size w2 W → W.cell? ⟨w1.heap.size, 0, none⟩ = some (.int .i64 (L k []).kind) ∧ W.cell? ⟨w1.heap.size, 1, none⟩ = some (.string (L k []).s) ∧ W.cell? ⟨w1.heap.size, 2, none⟩ = some (.slice (L k []).ea (L k []).el (L k []).ec) ∧ W.cell? ⟨w1.heap.size, 3, none⟩ = some (.slice (L k []).ba (L k []).bl (L k []).bc) ∧ W.cell? ⟨w1.heap.size, 4, none⟩ = some (.slice (L k []).la (L k []).ll (L k []).lc) := by
          rw [ew2]
          exact fun W hb => box5 hb
        have up1 : ∀ W, Below w2.heap.size w2 W → Below w1.heap.size w1 W := fun W hb => hb2.trans (hb.mono hb2.size)
        have UP : Hid (∀ W, Below w2.heap.size w2 W → Below w.heap.size w W) := fun W hb => hbel.trans ((up1 W hb).mono hbel.size)
        have kB : ∀ W, Below w2.heap.size w2 W → _ := fun W hb => IH.out W (L k []).ba (L k []).bl (L k []).bc (inBody (L k)) hS2.1.2.2.1 (SRow_below (up1 W hb) hS2.2.2.1)
        have kL : ∀ W, Below w2.heap.size w2 W → _ := fun W hb => IH.out W (L k []).la (L k []).ll (L k []).lc (inElse (L k)) hS2.1.2.2.2 (SRow_below (up1 W hb) hS2.2.2.2)
        obtain ⟨ge, ege⟩ : ∃ ge : Nat → Int, ge = fun j => exprFault 12 ((L k []).ex j) := ⟨_, rfl⟩
        have kE : ∀ j, j < (L k []).el → ∃ (y : ENode) (bl off : Nat), (L k []).ea = some ⟨bl, off, none⟩ ∧
            (∀ W, Below w2.heap.size w2 W → W.cell? ⟨bl, off + j * 5, none⟩ = some (.int .i64 y.kind) ∧ W.cell? ⟨bl, off + j * 5 + 1, none⟩ = some (.int .i64 y.n) ∧ W.cell? ⟨bl, off + j * 5 + 2, none⟩ = some (.string y.of) ∧ W.cell? ⟨bl, off + j * 5 + 3, none⟩ = some (.string y.s) ∧ W.cell? ⟨bl, off + j * 5 + 4, none⟩ = some (.slice y.ao y.len y.cap)) ∧
            ∀ W, Below w2.heap.size w2 W → Calls Try.prog 66 #[.agg #[.int .i64 y.kind, .int .i64 y.n, .string y.of, .string y.s, .slice y.ao y.len y.cap], .int .i64 1] W fun e w' => e = .returned (.int .i64 (ge j)) ∧ Below W.heap.size W w' := by
          intro j hj
          obtain ⟨⟨bl, off, ea, hc⟩, hz', hE⟩ := hS2.2.1 j hj
          refine ⟨(L k []).ex j [], bl, off, ea, fun W hb => cell5 (up1 W hb) hc, fun W hb => ?_⟩
          rw [ege]
          exact RefExpr.any 12 1 ((L k []).ex j) W (by decide) (by decide) hz' (ELies_below (up1 W hb) hE)
        obtain ⟨gk, egk⟩ : ∃ gk, gk = g k := ⟨_, rfl⟩
        obtain ⟨B, eB⟩ : ∃ B, B = stmtsFault d (L k []).bl (inBody (L k)) := ⟨_, rfl⟩
        obtain ⟨LL, eL⟩ : ∃ LL, LL = stmtsFault d (L k []).ll (inElse (L k)) := ⟨_, rfl⟩
        obtain ⟨cB, ecB⟩ : ∃ cB, cB = counted d (L k []).bl (inBody (L k)) := ⟨_, rfl⟩
        obtain ⟨cL, ecL⟩ : ∃ cL, cL = counted d (L k []).ll (inElse (L k)) := ⟨_, rfl⟩
        have GH0 : gk = if headFault (L k []) = 0 then if B = 0 then LL else B else headFault (L k []) := by rw [egk, HG.out, eB, eL]; rfl
        have HH : headFault (L k []) = if 1 ≤ (L k []).kind ∧ (L k []).kind ≤ 6 then if stmtForm (L k []) = true then first ge (L k []).el else 4 else 3 := by rw [ege]; rfl
        rw [HH] at GH0
        have RET : Hid (∀ v, gk = v → v ≠ 0 → RR = v ∧ CC = 0) := fun v hv h0 => by
          have e : RR = v := by rw [ERR.out, first_stops hkl FK.out (by rw [← egk, hv]; exact h0), ← egk, hv]
          exact ⟨e, by rw [ECC.out, e, if_neg h0]⟩
        have NEXT : Hid (gk = 0 → B = 0 → LL = 0 → wrap64 (wrap64 (m + cB) + cL) = wrap64 ((len + sum f (k + 1) : Nat) : Int) ∧ first g (k + 1) = 0) := fun h0 hB hL => by
          refine ⟨?_, by rw [first_succ FK.out, ← egk, h0]⟩
          have c1 : cB = wrap64 (count d (L k []).bl (inBody (L k)) : Nat) := by rw [ecB, counted, ← eB, if_pos hB]
          have c2 : cL = wrap64 (count d (L k []).ll (inElse (L k)) : Nat) := by rw [ecL, counted, ← eL, if_pos hL]
          have e : ((len + sum f k : Nat) : Int) + (count d (L k []).bl (inBody (L k)) : Int) + (count d (L k []).ll (inElse (L k)) : Int) = ((len + sum f (k + 1) : Nat) : Int) := by
            rw [show sum f (k + 1) = sum f k + f k from rfl, HF.out k]
            omega
          rw [EM.out, c1, c2, wrap_add3, e]
        rw [← eB, ← ecB] at kB
        rw [← eL, ← ecL] at kL
        have EW0 := ew2.symm
        have hs0 := hS2.1.1
        obtain ⟨_, hel, hbl, hll⟩ := hS2.1
        unfold maxLen at hel hbl hll
        have i1 : ((L k []).el : Int) ≤ 9223372036854775807 := by omega
        have i2 : ((L k []).bl : Int) ≤ 9223372036854775807 := by omega
        have i3 : ((L k []).ll : Int) ≤ 9223372036854775807 := by omega
        have hs : (L k []).s.size ≤ maxLen := hs0
        clear ew2 hb2 up1 ege egk eB eL ecB ecL HH IH HG HF ERR ECC EM FK HI hbel hS hS2 hel hbl hll hs0
        generalize L k [] = y at t0 t1 t2 t3 t4 bx kB kL kE GH0 EW0 i1 i2 i3 hs
        obtain ⟨kind, s, ea, el, ec, ex, ba, bl, bc, la, ll, lc⟩ := y
        subst ea1
        dsimp only at t0 t1 t2 t3 t4 bx kB kL kE GH0 EW0 i1 i2 i3 hs
        have BX : Hid _ := bx
        have KB : Hid _ := kB
        have KL : Hid _ := kL
        have KE : Hid _ := kE
        obtain ⟨q0, q1, q2, q3, q4⟩ := bx w2 (Below.refl _ _)
        clear bx kB kL kE
        by_cases hkind : 1 ≤ kind ∧ kind ≤ 6
        · rw [if_pos hkind] at GH0
          have GH : Hid _ := GH0
          have EW : Hid _ := EW0
          clear GH0 EW0
          rcases (show kind = 1 ∨ kind = 2 ∨ kind = 3 ∨ kind = 4 ∨ kind = 5 ∨ kind = 6 by omega) with rfl | rfl | rfl | rfl | rfl | rfl
          · have FM : Hid (stmtForm ⟨1, s, ea, el, ec, ex, ba, bl, bc, la, ll, lc⟩ = (identB s && decide (el = 1) && decide (bl = 0) && decide (ll = 0))) := (show stmtForm ⟨1, s, ea, el, ec, ex, ba, bl, bc, la, ll, lc⟩ = (identB s && decide (el = 1) && decide (bl = 0) && decide (ll = 0)) by simp [stmtForm])
            have kk22 : ∀ W, Calls Try.prog 43 #[.int .i64 1, .int .i64 1, .int .i64 6] W fun e w' => e = .returned (.bool true) ∧ w' = W := fun W => isIn 1 1 6 W
            rcases Bool.eq_false_or_eq_true (identB s) with hids | hids
            · have ks : ∀ W, Calls Try.prog 42 #[.string s] W fun e w' => e = .returned (.bool true) ∧ Below W.heap.size W w' := fun W => by rw [← hids]; exact nameMay s hs W
              by_cases hel1 : el = 1
              · have del1 : decide (el = 1) = true := decide_eq_true hel1
                subst hel1
                by_cases hbl0 : bl = 0
                · have dbl0 : decide (bl = 0) = true := decide_eq_true hbl0
                  subst hbl0
                  by_cases hll0 : ll = 0
                  · have dll0 : decide (ll = 0) = true := decide_eq_true hll0
                    subst hll0
                    have GG : Hid (gk = if first ge 1 = 0 then if B = 0 then LL else B else first ge 1) := by rw [GH.out, FM.out, hids, del1, dll0]; exact (rfl : _ = _)
                    clear GH FM
                    go_wp2_with (first
                      | (go_at_call 43; rw [EW.out]; refine (kk22 _).mono ?_; rintro e w' ⟨rfl, hw'⟩; rw [hw']; clear hw' w')
                      | (go_at_call 42; refine (ks _).mono ?_; rintro e w3 ⟨rfl, hx⟩; have hb3 : Below w2.heap.size w2 w3 := hx; clear hx q0 q1 q2 q3 q4; obtain ⟨q0, q1, q2, q3, q4⟩ := BX.out _ hb3))
                    all_goals
                      go_loopw [10] (fun i wq => ∃ j : Nat, j ≤ 1 ∧ i = .int .i64 j ∧ first ge j = 0 ∧ Below w2.heap.size w2 wq) (fun i _ => 1 - (intOf i).toNat)
                      case atStart => exact ⟨0, by omega, rfl, rfl, hb3⟩
                      case round =>
                        revert wr
                        intro w4 hrel
                        obtain ⟨j, hj, rfl, hf, hbel4⟩ := hrel
                        have FJ : Hid (first ge j = 0) := hf
                        clear hf q0 q1 q2 q3 q4
                        obtain ⟨q0, q1, q2, q3, q4⟩ := BX.out _ hbel4
                        by_cases hjl : j < 1
                        · obtain ⟨y, b2, off2, ea', hc, hy⟩ := KE.out j hjl
                          obtain ⟨u0, u1, u2, u3, u4⟩ := hc _ hbel4
                          have ky := hy _ hbel4
                          subst ea'
                          obtain ⟨r, er⟩ : ∃ r, r = ge j := ⟨_, rfl⟩
                          rw [← er] at ky
                          have ER : Hid (r = ge j) := er
                          have hjI : (j : Int) < 1 := by omega
                          clear er hc hy KE KB KL
                          obtain ⟨zk, zn, zof, zs, zao, zlen, zcap⟩ := y
                          dsimp only at u0 u1 u2 u3 u4 ky
                          by_cases hr : r = 0
                          · subst hr
                            go_wp2_with (go_at_call 66; refine ky.mono ?_; rintro e w5 ⟨rfl, hb5⟩; have hb6 := hbel4.trans (hb5.mono hbel4.size))
                            go_roundw
                            case rel => exact ⟨j + 1, by omega, by go_num, by rw [first_succ FJ.out]; exact ER.out.symm, hb6⟩
                            case measure => simp [intOf]; omega
                          · have hr2 : (r == 0) = false := beq_eq_false_iff_ne.2 hr
                            obtain ⟨R1, R2⟩ := RET.out r (by rw [GG.out, first_stops hjl FJ.out (by rw [← ER.out]; exact hr), ← ER.out, if_neg hr]) hr
                            have HR1 : Hid _ := R1
                            have HR2 : Hid _ := R2
                            clear hr R1 R2
                            go_wp2_with (go_at_call 66; refine ky.mono ?_; rintro e w5 ⟨rfl, hb5⟩; have hb6 := hbel4.trans (hb5.mono hbel4.size))
                            go_ret2
                            exact ⟨by rw [HR1.out, HR2.out]; rfl, UP.out _ hb6⟩
                        · obtain rfl : j = 1 := by omega
                          have G2 : Hid (gk = if B = 0 then LL else B) := by rw [GG.out, FJ.out, if_pos rfl]; exact (rfl : _ = _)
                          clear KE
                          by_cases hB : B = 0
                          · by_cases hL : LL = 0
                            · obtain ⟨N1, N2⟩ := NEXT.out (by rw [G2.out, if_pos hB]; exact hL) hB hL
                              have HN1 : Hid _ := N1
                              have HN2 : Hid _ := N2
                              subst hB
                              subst hL
                              clear N1 N2 G2
                              go_wp2_with (first
                                | (go_at_call_of 44 (Value.slice ba 0 bc); refine (KB.out _ hbel4).mono ?_; rintro e w5 ⟨rfl, hb5⟩; have hb6 := hbel4.trans (hb5.mono hbel4.size); clear q0 q1 q2 q3 q4; obtain ⟨q0, q1, q2, q3, q4⟩ := BX.out _ hb6)
                                | (go_at_call_of 44 (Value.slice la 0 lc); refine (KL.out _ hb6).mono ?_; rintro e w6 ⟨rfl, hb7⟩; have hb8 := hb6.trans (hb7.mono hb6.size)))
                              go_roundw
                              case rel => exact ⟨k + 1, _, by omega, by go_num, rfl, by first | exact HN1.out | (rw [← HN1.out]; simp only [Count.wrapEq]), HN2.out, UP.out _ hb8⟩
                              case measure => simp [intOf]; omega
                            · have hL2 : (LL == 0) = false := beq_eq_false_iff_ne.2 hL
                              obtain ⟨R1, R2⟩ := RET.out LL (by rw [G2.out, if_pos hB]) hL
                              have HR1 : Hid _ := R1
                              have HR2 : Hid _ := R2
                              subst hB
                              clear hL R1 R2 G2
                              go_wp2_with (first
                                | (go_at_call_of 44 (Value.slice ba 0 bc); refine (KB.out _ hbel4).mono ?_; rintro e w5 ⟨rfl, hb5⟩; have hb6 := hbel4.trans (hb5.mono hbel4.size); clear q0 q1 q2 q3 q4; obtain ⟨q0, q1, q2, q3, q4⟩ := BX.out _ hb6)
                                | (go_at_call_of 44 (Value.slice la 0 lc); refine (KL.out _ hb6).mono ?_; rintro e w6 ⟨rfl, hb7⟩; have hb8 := hb6.trans (hb7.mono hb6.size)))
                              go_ret2
                              exact ⟨by rw [HR1.out, HR2.out]; rfl, UP.out _ hb8⟩
                          · have hB2 : (B == 0) = false := beq_eq_false_iff_ne.2 hB
                            obtain ⟨R1, R2⟩ := RET.out B (by rw [G2.out, if_neg hB]) hB
                            have HR1 : Hid _ := R1
                            have HR2 : Hid _ := R2
                            clear hB R1 R2 G2
                            go_wp2_with (go_at_call_of 44 (Value.slice ba 0 bc); refine (KB.out _ hbel4).mono ?_; rintro e w5 ⟨rfl, hb5⟩; have hb6 := hbel4.trans (hb5.mono hbel4.size))
                            go_ret2
                            exact ⟨by rw [HR1.out, HR2.out]; rfl, UP.out _ hb6⟩
                  · have dll0 : decide (ll = 0) = false := decide_eq_false hll0
                    have bll0 : ((ll : Int) == 0) = false := beq_eq_false_iff_ne.2 (by omega)
                    have GB : gk = 4 := by rw [GH.out, FM.out, hids, del1, dbl0, dll0]; rfl
                    have e0 : (0 : Int) < ll := by omega
                    clear hll0
                    clear GH FM KE KB KL
                    obtain ⟨R1, R2⟩ := RET.out 4 GB (by decide)
                    have HR1 : Hid _ := R1
                    have HR2 : Hid _ := R2
                    clear R1 R2 GB
                    go_wp2_with (first
                      | (go_at_call 43; rw [EW.out]; refine (kk22 _).mono ?_; rintro e w' ⟨rfl, hw'⟩; rw [hw']; clear hw' w')
                      | (go_at_call 42; refine (ks _).mono ?_; rintro e w3 ⟨rfl, hx⟩; have hb3 : Below w2.heap.size w2 w3 := hx; clear hx q0 q1 q2 q3 q4; obtain ⟨q0, q1, q2, q3, q4⟩ := BX.out _ hb3))
                    all_goals
                      go_ret2
                      exact ⟨by rw [HR1.out, HR2.out]; rfl, UP.out _ hb3⟩
                · have dbl0 : decide (bl = 0) = false := decide_eq_false hbl0
                  have bbl0 : ((bl : Int) == 0) = false := beq_eq_false_iff_ne.2 (by omega)
                  have GB : gk = 4 := by rw [GH.out, FM.out, hids, del1, dbl0]; rfl
                  have e0 : (0 : Int) < bl := by omega
                  clear hbl0
                  clear GH FM KE KB KL
                  obtain ⟨R1, R2⟩ := RET.out 4 GB (by decide)
                  have HR1 : Hid _ := R1
                  have HR2 : Hid _ := R2
                  clear R1 R2 GB
                  go_wp2_with (first
                    | (go_at_call 43; rw [EW.out]; refine (kk22 _).mono ?_; rintro e w' ⟨rfl, hw'⟩; rw [hw']; clear hw' w')
                    | (go_at_call 42; refine (ks _).mono ?_; rintro e w3 ⟨rfl, hx⟩; have hb3 : Below w2.heap.size w2 w3 := hx; clear hx q0 q1 q2 q3 q4; obtain ⟨q0, q1, q2, q3, q4⟩ := BX.out _ hb3))
                  all_goals
                    go_ret2
                    exact ⟨by rw [HR1.out, HR2.out]; rfl, UP.out _ hb3⟩
              · have del1 : decide (el = 1) = false := decide_eq_false hel1
                have bel1 : ((el : Int) == 1) = false := beq_eq_false_iff_ne.2 (by omega)
                have GB : gk = 4 := by rw [GH.out, FM.out, hids, del1]; rfl
                clear hel1
                clear GH FM KE KB KL
                obtain ⟨R1, R2⟩ := RET.out 4 GB (by decide)
                have HR1 : Hid _ := R1
                have HR2 : Hid _ := R2
                clear R1 R2 GB
                go_wp2_with (first
                  | (go_at_call 43; rw [EW.out]; refine (kk22 _).mono ?_; rintro e w' ⟨rfl, hw'⟩; rw [hw']; clear hw' w')
                  | (go_at_call 42; refine (ks _).mono ?_; rintro e w3 ⟨rfl, hx⟩; have hb3 : Below w2.heap.size w2 w3 := hx; clear hx q0 q1 q2 q3 q4; obtain ⟨q0, q1, q2, q3, q4⟩ := BX.out _ hb3))
                all_goals
                  go_ret2
                  exact ⟨by rw [HR1.out, HR2.out]; rfl, UP.out _ hb3⟩
            · have ks : ∀ W, Calls Try.prog 42 #[.string s] W fun e w' => e = .returned (.bool false) ∧ Below W.heap.size W w' := fun W => by rw [← hids]; exact nameMay s hs W
              have GB : gk = 4 := by rw [GH.out, FM.out, hids]; rfl
              clear GH FM KE KB KL
              obtain ⟨R1, R2⟩ := RET.out 4 GB (by decide)
              have HR1 : Hid _ := R1
              have HR2 : Hid _ := R2
              clear R1 R2 GB
              go_wp2_with (first
                | (go_at_call 43; rw [EW.out]; refine (kk22 _).mono ?_; rintro e w' ⟨rfl, hw'⟩; rw [hw']; clear hw' w')
                | (go_at_call 42; refine (ks _).mono ?_; rintro e w3 ⟨rfl, hx⟩; have hb3 : Below w2.heap.size w2 w3 := hx; clear hx q0 q1 q2 q3 q4; obtain ⟨q0, q1, q2, q3, q4⟩ := BX.out _ hb3))
              all_goals
                go_ret2
                exact ⟨by rw [HR1.out, HR2.out]; rfl, UP.out _ hb3⟩
          · have FM : Hid (stmtForm ⟨2, s, ea, el, ec, ex, ba, bl, bc, la, ll, lc⟩ = (identB s && decide (el = 2) && decide (bl = 0) && decide (ll = 0))) := (show stmtForm ⟨2, s, ea, el, ec, ex, ba, bl, bc, la, ll, lc⟩ = (identB s && decide (el = 2) && decide (bl = 0) && decide (ll = 0)) by simp [stmtForm])
            have kk22 : ∀ W, Calls Try.prog 43 #[.int .i64 2, .int .i64 1, .int .i64 6] W fun e w' => e = .returned (.bool true) ∧ w' = W := fun W => isIn 2 1 6 W
            rcases Bool.eq_false_or_eq_true (identB s) with hids | hids
            · have ks : ∀ W, Calls Try.prog 42 #[.string s] W fun e w' => e = .returned (.bool true) ∧ Below W.heap.size W w' := fun W => by rw [← hids]; exact nameMay s hs W
              by_cases hel2 : el = 2
              · have del2 : decide (el = 2) = true := decide_eq_true hel2
                subst hel2
                by_cases hbl0 : bl = 0
                · have dbl0 : decide (bl = 0) = true := decide_eq_true hbl0
                  subst hbl0
                  by_cases hll0 : ll = 0
                  · have dll0 : decide (ll = 0) = true := decide_eq_true hll0
                    subst hll0
                    have GG : Hid (gk = if first ge 2 = 0 then if B = 0 then LL else B else first ge 2) := by rw [GH.out, FM.out, hids, del2, dll0]; exact (rfl : _ = _)
                    clear GH FM
                    go_wp2_with (first
                      | (go_at_call 43; rw [EW.out]; refine (kk22 _).mono ?_; rintro e w' ⟨rfl, hw'⟩; rw [hw']; clear hw' w')
                      | (go_at_call 42; refine (ks _).mono ?_; rintro e w3 ⟨rfl, hx⟩; have hb3 : Below w2.heap.size w2 w3 := hx; clear hx q0 q1 q2 q3 q4; obtain ⟨q0, q1, q2, q3, q4⟩ := BX.out _ hb3))
                    all_goals
                      go_loopw [10] (fun i wq => ∃ j : Nat, j ≤ 2 ∧ i = .int .i64 j ∧ first ge j = 0 ∧ Below w2.heap.size w2 wq) (fun i _ => 2 - (intOf i).toNat)
                      case atStart => exact ⟨0, by omega, rfl, rfl, hb3⟩
                      case round =>
                        revert wr
                        intro w4 hrel
                        obtain ⟨j, hj, rfl, hf, hbel4⟩ := hrel
                        have FJ : Hid (first ge j = 0) := hf
                        clear hf q0 q1 q2 q3 q4
                        obtain ⟨q0, q1, q2, q3, q4⟩ := BX.out _ hbel4
                        by_cases hjl : j < 2
                        · obtain ⟨y, b2, off2, ea', hc, hy⟩ := KE.out j hjl
                          obtain ⟨u0, u1, u2, u3, u4⟩ := hc _ hbel4
                          have ky := hy _ hbel4
                          subst ea'
                          obtain ⟨r, er⟩ : ∃ r, r = ge j := ⟨_, rfl⟩
                          rw [← er] at ky
                          have ER : Hid (r = ge j) := er
                          have hjI : (j : Int) < 2 := by omega
                          clear er hc hy KE KB KL
                          obtain ⟨zk, zn, zof, zs, zao, zlen, zcap⟩ := y
                          dsimp only at u0 u1 u2 u3 u4 ky
                          by_cases hr : r = 0
                          · subst hr
                            go_wp2_with (go_at_call 66; refine ky.mono ?_; rintro e w5 ⟨rfl, hb5⟩; have hb6 := hbel4.trans (hb5.mono hbel4.size))
                            go_roundw
                            case rel => exact ⟨j + 1, by omega, by go_num, by rw [first_succ FJ.out]; exact ER.out.symm, hb6⟩
                            case measure => simp [intOf]; omega
                          · have hr2 : (r == 0) = false := beq_eq_false_iff_ne.2 hr
                            obtain ⟨R1, R2⟩ := RET.out r (by rw [GG.out, first_stops hjl FJ.out (by rw [← ER.out]; exact hr), ← ER.out, if_neg hr]) hr
                            have HR1 : Hid _ := R1
                            have HR2 : Hid _ := R2
                            clear hr R1 R2
                            go_wp2_with (go_at_call 66; refine ky.mono ?_; rintro e w5 ⟨rfl, hb5⟩; have hb6 := hbel4.trans (hb5.mono hbel4.size))
                            go_ret2
                            exact ⟨by rw [HR1.out, HR2.out]; rfl, UP.out _ hb6⟩
                        · obtain rfl : j = 2 := by omega
                          have G2 : Hid (gk = if B = 0 then LL else B) := by rw [GG.out, FJ.out, if_pos rfl]; exact (rfl : _ = _)
                          clear KE
                          by_cases hB : B = 0
                          · by_cases hL : LL = 0
                            · obtain ⟨N1, N2⟩ := NEXT.out (by rw [G2.out, if_pos hB]; exact hL) hB hL
                              have HN1 : Hid _ := N1
                              have HN2 : Hid _ := N2
                              subst hB
                              subst hL
                              clear N1 N2 G2
                              go_wp2_with (first
                                | (go_at_call_of 44 (Value.slice ba 0 bc); refine (KB.out _ hbel4).mono ?_; rintro e w5 ⟨rfl, hb5⟩; have hb6 := hbel4.trans (hb5.mono hbel4.size); clear q0 q1 q2 q3 q4; obtain ⟨q0, q1, q2, q3, q4⟩ := BX.out _ hb6)
                                | (go_at_call_of 44 (Value.slice la 0 lc); refine (KL.out _ hb6).mono ?_; rintro e w6 ⟨rfl, hb7⟩; have hb8 := hb6.trans (hb7.mono hb6.size)))
                              go_roundw
                              case rel => exact ⟨k + 1, _, by omega, by go_num, rfl, by first | exact HN1.out | (rw [← HN1.out]; simp only [Count.wrapEq]), HN2.out, UP.out _ hb8⟩
                              case measure => simp [intOf]; omega
                            · have hL2 : (LL == 0) = false := beq_eq_false_iff_ne.2 hL
                              obtain ⟨R1, R2⟩ := RET.out LL (by rw [G2.out, if_pos hB]) hL
                              have HR1 : Hid _ := R1
                              have HR2 : Hid _ := R2
                              subst hB
                              clear hL R1 R2 G2
                              go_wp2_with (first
                                | (go_at_call_of 44 (Value.slice ba 0 bc); refine (KB.out _ hbel4).mono ?_; rintro e w5 ⟨rfl, hb5⟩; have hb6 := hbel4.trans (hb5.mono hbel4.size); clear q0 q1 q2 q3 q4; obtain ⟨q0, q1, q2, q3, q4⟩ := BX.out _ hb6)
                                | (go_at_call_of 44 (Value.slice la 0 lc); refine (KL.out _ hb6).mono ?_; rintro e w6 ⟨rfl, hb7⟩; have hb8 := hb6.trans (hb7.mono hb6.size)))
                              go_ret2
                              exact ⟨by rw [HR1.out, HR2.out]; rfl, UP.out _ hb8⟩
                          · have hB2 : (B == 0) = false := beq_eq_false_iff_ne.2 hB
                            obtain ⟨R1, R2⟩ := RET.out B (by rw [G2.out, if_neg hB]) hB
                            have HR1 : Hid _ := R1
                            have HR2 : Hid _ := R2
                            clear hB R1 R2 G2
                            go_wp2_with (go_at_call_of 44 (Value.slice ba 0 bc); refine (KB.out _ hbel4).mono ?_; rintro e w5 ⟨rfl, hb5⟩; have hb6 := hbel4.trans (hb5.mono hbel4.size))
                            go_ret2
                            exact ⟨by rw [HR1.out, HR2.out]; rfl, UP.out _ hb6⟩
                  · have dll0 : decide (ll = 0) = false := decide_eq_false hll0
                    have bll0 : ((ll : Int) == 0) = false := beq_eq_false_iff_ne.2 (by omega)
                    have GB : gk = 4 := by rw [GH.out, FM.out, hids, del2, dbl0, dll0]; rfl
                    have e0 : (0 : Int) < ll := by omega
                    clear hll0
                    clear GH FM KE KB KL
                    obtain ⟨R1, R2⟩ := RET.out 4 GB (by decide)
                    have HR1 : Hid _ := R1
                    have HR2 : Hid _ := R2
                    clear R1 R2 GB
                    go_wp2_with (first
                      | (go_at_call 43; rw [EW.out]; refine (kk22 _).mono ?_; rintro e w' ⟨rfl, hw'⟩; rw [hw']; clear hw' w')
                      | (go_at_call 42; refine (ks _).mono ?_; rintro e w3 ⟨rfl, hx⟩; have hb3 : Below w2.heap.size w2 w3 := hx; clear hx q0 q1 q2 q3 q4; obtain ⟨q0, q1, q2, q3, q4⟩ := BX.out _ hb3))
                    all_goals
                      go_ret2
                      exact ⟨by rw [HR1.out, HR2.out]; rfl, UP.out _ hb3⟩
                · have dbl0 : decide (bl = 0) = false := decide_eq_false hbl0
                  have bbl0 : ((bl : Int) == 0) = false := beq_eq_false_iff_ne.2 (by omega)
                  have GB : gk = 4 := by rw [GH.out, FM.out, hids, del2, dbl0]; rfl
                  have e0 : (0 : Int) < bl := by omega
                  clear hbl0
                  clear GH FM KE KB KL
                  obtain ⟨R1, R2⟩ := RET.out 4 GB (by decide)
                  have HR1 : Hid _ := R1
                  have HR2 : Hid _ := R2
                  clear R1 R2 GB
                  go_wp2_with (first
                    | (go_at_call 43; rw [EW.out]; refine (kk22 _).mono ?_; rintro e w' ⟨rfl, hw'⟩; rw [hw']; clear hw' w')
                    | (go_at_call 42; refine (ks _).mono ?_; rintro e w3 ⟨rfl, hx⟩; have hb3 : Below w2.heap.size w2 w3 := hx; clear hx q0 q1 q2 q3 q4; obtain ⟨q0, q1, q2, q3, q4⟩ := BX.out _ hb3))
                  all_goals
                    go_ret2
                    exact ⟨by rw [HR1.out, HR2.out]; rfl, UP.out _ hb3⟩
              · have del2 : decide (el = 2) = false := decide_eq_false hel2
                have bel2 : ((el : Int) == 2) = false := beq_eq_false_iff_ne.2 (by omega)
                have GB : gk = 4 := by rw [GH.out, FM.out, hids, del2]; rfl
                clear hel2
                clear GH FM KE KB KL
                obtain ⟨R1, R2⟩ := RET.out 4 GB (by decide)
                have HR1 : Hid _ := R1
                have HR2 : Hid _ := R2
                clear R1 R2 GB
                go_wp2_with (first
                  | (go_at_call 43; rw [EW.out]; refine (kk22 _).mono ?_; rintro e w' ⟨rfl, hw'⟩; rw [hw']; clear hw' w')
                  | (go_at_call 42; refine (ks _).mono ?_; rintro e w3 ⟨rfl, hx⟩; have hb3 : Below w2.heap.size w2 w3 := hx; clear hx q0 q1 q2 q3 q4; obtain ⟨q0, q1, q2, q3, q4⟩ := BX.out _ hb3))
                all_goals
                  go_ret2
                  exact ⟨by rw [HR1.out, HR2.out]; rfl, UP.out _ hb3⟩
            · have ks : ∀ W, Calls Try.prog 42 #[.string s] W fun e w' => e = .returned (.bool false) ∧ Below W.heap.size W w' := fun W => by rw [← hids]; exact nameMay s hs W
              have GB : gk = 4 := by rw [GH.out, FM.out, hids]; rfl
              clear GH FM KE KB KL
              obtain ⟨R1, R2⟩ := RET.out 4 GB (by decide)
              have HR1 : Hid _ := R1
              have HR2 : Hid _ := R2
              clear R1 R2 GB
              go_wp2_with (first
                | (go_at_call 43; rw [EW.out]; refine (kk22 _).mono ?_; rintro e w' ⟨rfl, hw'⟩; rw [hw']; clear hw' w')
                | (go_at_call 42; refine (ks _).mono ?_; rintro e w3 ⟨rfl, hx⟩; have hb3 : Below w2.heap.size w2 w3 := hx; clear hx q0 q1 q2 q3 q4; obtain ⟨q0, q1, q2, q3, q4⟩ := BX.out _ hb3))
              all_goals
                go_ret2
                exact ⟨by rw [HR1.out, HR2.out]; rfl, UP.out _ hb3⟩
          · have FM : Hid (stmtForm ⟨3, s, ea, el, ec, ex, ba, bl, bc, la, ll, lc⟩ = ((s.toList == []) && decide (el = 1))) := (show stmtForm ⟨3, s, ea, el, ec, ex, ba, bl, bc, la, ll, lc⟩ = ((s.toList == []) && decide (el = 1)) by simp [stmtForm])
            have kk22 : ∀ W, Calls Try.prog 43 #[.int .i64 3, .int .i64 1, .int .i64 6] W fun e w' => e = .returned (.bool true) ∧ w' = W := fun W => isIn 3 1 6 W
            rcases Bool.eq_false_or_eq_true (s.toList == []) with hs0 | hs0
            · by_cases hel1 : el = 1
              · have del1 : decide (el = 1) = true := decide_eq_true hel1
                subst hel1
                have GG : Hid (gk = if first ge 1 = 0 then if B = 0 then LL else B else first ge 1) := by rw [GH.out, FM.out, hs0, del1]; exact (rfl : _ = _)
                clear GH FM
                go_wp2_with (first
                  | (go_at_call 43; rw [EW.out]; refine (kk22 _).mono ?_; rintro e w' ⟨rfl, hw'⟩; rw [hw']; clear hw' w'))
                all_goals
                  go_loopw [10] (fun i wq => ∃ j : Nat, j ≤ 1 ∧ i = .int .i64 j ∧ first ge j = 0 ∧ Below w2.heap.size w2 wq) (fun i _ => 1 - (intOf i).toNat)
                  case atStart => exact ⟨0, by omega, rfl, rfl, (Below.refl _ _)⟩
                  case round =>
                    revert wr
                    intro w4 hrel
                    obtain ⟨j, hj, rfl, hf, hbel4⟩ := hrel
                    have FJ : Hid (first ge j = 0) := hf
                    clear hf q0 q1 q2 q3 q4
                    obtain ⟨q0, q1, q2, q3, q4⟩ := BX.out _ hbel4
                    by_cases hjl : j < 1
                    · obtain ⟨y, b2, off2, ea', hc, hy⟩ := KE.out j hjl
                      obtain ⟨u0, u1, u2, u3, u4⟩ := hc _ hbel4
                      have ky := hy _ hbel4
                      subst ea'
                      obtain ⟨r, er⟩ : ∃ r, r = ge j := ⟨_, rfl⟩
                      rw [← er] at ky
                      have ER : Hid (r = ge j) := er
                      have hjI : (j : Int) < 1 := by omega
                      clear er hc hy KE KB KL
                      obtain ⟨zk, zn, zof, zs, zao, zlen, zcap⟩ := y
                      dsimp only at u0 u1 u2 u3 u4 ky
                      by_cases hr : r = 0
                      · subst hr
                        go_wp2_with (go_at_call 66; refine ky.mono ?_; rintro e w5 ⟨rfl, hb5⟩; have hb6 := hbel4.trans (hb5.mono hbel4.size))
                        go_roundw
                        case rel => exact ⟨j + 1, by omega, by go_num, by rw [first_succ FJ.out]; exact ER.out.symm, hb6⟩
                        case measure => simp [intOf]; omega
                      · have hr2 : (r == 0) = false := beq_eq_false_iff_ne.2 hr
                        obtain ⟨R1, R2⟩ := RET.out r (by rw [GG.out, first_stops hjl FJ.out (by rw [← ER.out]; exact hr), ← ER.out, if_neg hr]) hr
                        have HR1 : Hid _ := R1
                        have HR2 : Hid _ := R2
                        clear hr R1 R2
                        go_wp2_with (go_at_call 66; refine ky.mono ?_; rintro e w5 ⟨rfl, hb5⟩; have hb6 := hbel4.trans (hb5.mono hbel4.size))
                        go_ret2
                        exact ⟨by rw [HR1.out, HR2.out]; rfl, UP.out _ hb6⟩
                    · obtain rfl : j = 1 := by omega
                      have G2 : Hid (gk = if B = 0 then LL else B) := by rw [GG.out, FJ.out, if_pos rfl]; exact (rfl : _ = _)
                      clear KE
                      by_cases hB : B = 0
                      · by_cases hL : LL = 0
                        · obtain ⟨N1, N2⟩ := NEXT.out (by rw [G2.out, if_pos hB]; exact hL) hB hL
                          have HN1 : Hid _ := N1
                          have HN2 : Hid _ := N2
                          subst hB
                          subst hL
                          clear N1 N2 G2
                          go_wp2_with (first
                            | (go_at_call_of 44 (Value.slice ba bl bc); refine (KB.out _ hbel4).mono ?_; rintro e w5 ⟨rfl, hb5⟩; have hb6 := hbel4.trans (hb5.mono hbel4.size); clear q0 q1 q2 q3 q4; obtain ⟨q0, q1, q2, q3, q4⟩ := BX.out _ hb6)
                            | (go_at_call_of 44 (Value.slice la ll lc); refine (KL.out _ hb6).mono ?_; rintro e w6 ⟨rfl, hb7⟩; have hb8 := hb6.trans (hb7.mono hb6.size)))
                          go_roundw
                          case rel => exact ⟨k + 1, _, by omega, by go_num, rfl, by first | exact HN1.out | (rw [← HN1.out]; simp only [Count.wrapEq]), HN2.out, UP.out _ hb8⟩
                          case measure => simp [intOf]; omega
                        · have hL2 : (LL == 0) = false := beq_eq_false_iff_ne.2 hL
                          obtain ⟨R1, R2⟩ := RET.out LL (by rw [G2.out, if_pos hB]) hL
                          have HR1 : Hid _ := R1
                          have HR2 : Hid _ := R2
                          subst hB
                          clear hL R1 R2 G2
                          go_wp2_with (first
                            | (go_at_call_of 44 (Value.slice ba bl bc); refine (KB.out _ hbel4).mono ?_; rintro e w5 ⟨rfl, hb5⟩; have hb6 := hbel4.trans (hb5.mono hbel4.size); clear q0 q1 q2 q3 q4; obtain ⟨q0, q1, q2, q3, q4⟩ := BX.out _ hb6)
                            | (go_at_call_of 44 (Value.slice la ll lc); refine (KL.out _ hb6).mono ?_; rintro e w6 ⟨rfl, hb7⟩; have hb8 := hb6.trans (hb7.mono hb6.size)))
                          go_ret2
                          exact ⟨by rw [HR1.out, HR2.out]; rfl, UP.out _ hb8⟩
                      · have hB2 : (B == 0) = false := beq_eq_false_iff_ne.2 hB
                        obtain ⟨R1, R2⟩ := RET.out B (by rw [G2.out, if_neg hB]) hB
                        have HR1 : Hid _ := R1
                        have HR2 : Hid _ := R2
                        clear hB R1 R2 G2
                        go_wp2_with (go_at_call_of 44 (Value.slice ba bl bc); refine (KB.out _ hbel4).mono ?_; rintro e w5 ⟨rfl, hb5⟩; have hb6 := hbel4.trans (hb5.mono hbel4.size))
                        go_ret2
                        exact ⟨by rw [HR1.out, HR2.out]; rfl, UP.out _ hb6⟩
              · have del1 : decide (el = 1) = false := decide_eq_false hel1
                have bel1 : ((el : Int) == 1) = false := beq_eq_false_iff_ne.2 (by omega)
                have GB : gk = 4 := by rw [GH.out, FM.out, hs0, del1]; rfl
                clear hel1
                clear GH FM KE KB KL
                obtain ⟨R1, R2⟩ := RET.out 4 GB (by decide)
                have HR1 : Hid _ := R1
                have HR2 : Hid _ := R2
                clear R1 R2 GB
                go_wp2_with (first
                  | (go_at_call 43; rw [EW.out]; refine (kk22 _).mono ?_; rintro e w' ⟨rfl, hw'⟩; rw [hw']; clear hw' w'))
                all_goals
                  go_ret2
                  exact ⟨by rw [HR1.out, HR2.out]; rfl, UP.out _ (Below.refl _ _)⟩
            · have GB : gk = 4 := by rw [GH.out, FM.out, hs0]; rfl
              clear GH FM KE KB KL
              obtain ⟨R1, R2⟩ := RET.out 4 GB (by decide)
              have HR1 : Hid _ := R1
              have HR2 : Hid _ := R2
              clear R1 R2 GB
              go_wp2_with (first
                | (go_at_call 43; rw [EW.out]; refine (kk22 _).mono ?_; rintro e w' ⟨rfl, hw'⟩; rw [hw']; clear hw' w'))
              all_goals
                go_ret2
                exact ⟨by rw [HR1.out, HR2.out]; rfl, UP.out _ (Below.refl _ _)⟩
          · have FM : Hid (stmtForm ⟨4, s, ea, el, ec, ex, ba, bl, bc, la, ll, lc⟩ = ((s.toList == []) && decide (el = 1) && decide (ll = 0))) := (show stmtForm ⟨4, s, ea, el, ec, ex, ba, bl, bc, la, ll, lc⟩ = ((s.toList == []) && decide (el = 1) && decide (ll = 0)) by simp [stmtForm])
            have kk22 : ∀ W, Calls Try.prog 43 #[.int .i64 4, .int .i64 1, .int .i64 6] W fun e w' => e = .returned (.bool true) ∧ w' = W := fun W => isIn 4 1 6 W
            rcases Bool.eq_false_or_eq_true (s.toList == []) with hs0 | hs0
            · by_cases hel1 : el = 1
              · have del1 : decide (el = 1) = true := decide_eq_true hel1
                subst hel1
                by_cases hll0 : ll = 0
                · have dll0 : decide (ll = 0) = true := decide_eq_true hll0
                  subst hll0
                  have GG : Hid (gk = if first ge 1 = 0 then if B = 0 then LL else B else first ge 1) := by rw [GH.out, FM.out, hs0, del1, dll0]; exact (rfl : _ = _)
                  clear GH FM
                  go_wp2_with (first
                    | (go_at_call 43; rw [EW.out]; refine (kk22 _).mono ?_; rintro e w' ⟨rfl, hw'⟩; rw [hw']; clear hw' w'))
                  all_goals
                    go_loopw [10] (fun i wq => ∃ j : Nat, j ≤ 1 ∧ i = .int .i64 j ∧ first ge j = 0 ∧ Below w2.heap.size w2 wq) (fun i _ => 1 - (intOf i).toNat)
                    case atStart => exact ⟨0, by omega, rfl, rfl, (Below.refl _ _)⟩
                    case round =>
                      revert wr
                      intro w4 hrel
                      obtain ⟨j, hj, rfl, hf, hbel4⟩ := hrel
                      have FJ : Hid (first ge j = 0) := hf
                      clear hf q0 q1 q2 q3 q4
                      obtain ⟨q0, q1, q2, q3, q4⟩ := BX.out _ hbel4
                      by_cases hjl : j < 1
                      · obtain ⟨y, b2, off2, ea', hc, hy⟩ := KE.out j hjl
                        obtain ⟨u0, u1, u2, u3, u4⟩ := hc _ hbel4
                        have ky := hy _ hbel4
                        subst ea'
                        obtain ⟨r, er⟩ : ∃ r, r = ge j := ⟨_, rfl⟩
                        rw [← er] at ky
                        have ER : Hid (r = ge j) := er
                        have hjI : (j : Int) < 1 := by omega
                        clear er hc hy KE KB KL
                        obtain ⟨zk, zn, zof, zs, zao, zlen, zcap⟩ := y
                        dsimp only at u0 u1 u2 u3 u4 ky
                        by_cases hr : r = 0
                        · subst hr
                          go_wp2_with (go_at_call 66; refine ky.mono ?_; rintro e w5 ⟨rfl, hb5⟩; have hb6 := hbel4.trans (hb5.mono hbel4.size))
                          go_roundw
                          case rel => exact ⟨j + 1, by omega, by go_num, by rw [first_succ FJ.out]; exact ER.out.symm, hb6⟩
                          case measure => simp [intOf]; omega
                        · have hr2 : (r == 0) = false := beq_eq_false_iff_ne.2 hr
                          obtain ⟨R1, R2⟩ := RET.out r (by rw [GG.out, first_stops hjl FJ.out (by rw [← ER.out]; exact hr), ← ER.out, if_neg hr]) hr
                          have HR1 : Hid _ := R1
                          have HR2 : Hid _ := R2
                          clear hr R1 R2
                          go_wp2_with (go_at_call 66; refine ky.mono ?_; rintro e w5 ⟨rfl, hb5⟩; have hb6 := hbel4.trans (hb5.mono hbel4.size))
                          go_ret2
                          exact ⟨by rw [HR1.out, HR2.out]; rfl, UP.out _ hb6⟩
                      · obtain rfl : j = 1 := by omega
                        have G2 : Hid (gk = if B = 0 then LL else B) := by rw [GG.out, FJ.out, if_pos rfl]; exact (rfl : _ = _)
                        clear KE
                        by_cases hB : B = 0
                        · by_cases hL : LL = 0
                          · obtain ⟨N1, N2⟩ := NEXT.out (by rw [G2.out, if_pos hB]; exact hL) hB hL
                            have HN1 : Hid _ := N1
                            have HN2 : Hid _ := N2
                            subst hB
                            subst hL
                            clear N1 N2 G2
                            go_wp2_with (first
                              | (go_at_call_of 44 (Value.slice ba bl bc); refine (KB.out _ hbel4).mono ?_; rintro e w5 ⟨rfl, hb5⟩; have hb6 := hbel4.trans (hb5.mono hbel4.size); clear q0 q1 q2 q3 q4; obtain ⟨q0, q1, q2, q3, q4⟩ := BX.out _ hb6)
                              | (go_at_call_of 44 (Value.slice la 0 lc); refine (KL.out _ hb6).mono ?_; rintro e w6 ⟨rfl, hb7⟩; have hb8 := hb6.trans (hb7.mono hb6.size)))
                            go_roundw
                            case rel => exact ⟨k + 1, _, by omega, by go_num, rfl, by first | exact HN1.out | (rw [← HN1.out]; simp only [Count.wrapEq]), HN2.out, UP.out _ hb8⟩
                            case measure => simp [intOf]; omega
                          · have hL2 : (LL == 0) = false := beq_eq_false_iff_ne.2 hL
                            obtain ⟨R1, R2⟩ := RET.out LL (by rw [G2.out, if_pos hB]) hL
                            have HR1 : Hid _ := R1
                            have HR2 : Hid _ := R2
                            subst hB
                            clear hL R1 R2 G2
                            go_wp2_with (first
                              | (go_at_call_of 44 (Value.slice ba bl bc); refine (KB.out _ hbel4).mono ?_; rintro e w5 ⟨rfl, hb5⟩; have hb6 := hbel4.trans (hb5.mono hbel4.size); clear q0 q1 q2 q3 q4; obtain ⟨q0, q1, q2, q3, q4⟩ := BX.out _ hb6)
                              | (go_at_call_of 44 (Value.slice la 0 lc); refine (KL.out _ hb6).mono ?_; rintro e w6 ⟨rfl, hb7⟩; have hb8 := hb6.trans (hb7.mono hb6.size)))
                            go_ret2
                            exact ⟨by rw [HR1.out, HR2.out]; rfl, UP.out _ hb8⟩
                        · have hB2 : (B == 0) = false := beq_eq_false_iff_ne.2 hB
                          obtain ⟨R1, R2⟩ := RET.out B (by rw [G2.out, if_neg hB]) hB
                          have HR1 : Hid _ := R1
                          have HR2 : Hid _ := R2
                          clear hB R1 R2 G2
                          go_wp2_with (go_at_call_of 44 (Value.slice ba bl bc); refine (KB.out _ hbel4).mono ?_; rintro e w5 ⟨rfl, hb5⟩; have hb6 := hbel4.trans (hb5.mono hbel4.size))
                          go_ret2
                          exact ⟨by rw [HR1.out, HR2.out]; rfl, UP.out _ hb6⟩
                · have dll0 : decide (ll = 0) = false := decide_eq_false hll0
                  have bll0 : ((ll : Int) == 0) = false := beq_eq_false_iff_ne.2 (by omega)
                  have GB : gk = 4 := by rw [GH.out, FM.out, hs0, del1, dll0]; rfl
                  have e0 : (0 : Int) < ll := by omega
                  clear hll0
                  clear GH FM KE KB KL
                  obtain ⟨R1, R2⟩ := RET.out 4 GB (by decide)
                  have HR1 : Hid _ := R1
                  have HR2 : Hid _ := R2
                  clear R1 R2 GB
                  go_wp2_with (first
                    | (go_at_call 43; rw [EW.out]; refine (kk22 _).mono ?_; rintro e w' ⟨rfl, hw'⟩; rw [hw']; clear hw' w'))
                  all_goals
                    go_ret2
                    exact ⟨by rw [HR1.out, HR2.out]; rfl, UP.out _ (Below.refl _ _)⟩
              · have del1 : decide (el = 1) = false := decide_eq_false hel1
                have bel1 : ((el : Int) == 1) = false := beq_eq_false_iff_ne.2 (by omega)
                have GB : gk = 4 := by rw [GH.out, FM.out, hs0, del1]; rfl
                clear hel1
                clear GH FM KE KB KL
                obtain ⟨R1, R2⟩ := RET.out 4 GB (by decide)
                have HR1 : Hid _ := R1
                have HR2 : Hid _ := R2
                clear R1 R2 GB
                go_wp2_with (first
                  | (go_at_call 43; rw [EW.out]; refine (kk22 _).mono ?_; rintro e w' ⟨rfl, hw'⟩; rw [hw']; clear hw' w'))
                all_goals
                  go_ret2
                  exact ⟨by rw [HR1.out, HR2.out]; rfl, UP.out _ (Below.refl _ _)⟩
            · have GB : gk = 4 := by rw [GH.out, FM.out, hs0]; rfl
              clear GH FM KE KB KL
              obtain ⟨R1, R2⟩ := RET.out 4 GB (by decide)
              have HR1 : Hid _ := R1
              have HR2 : Hid _ := R2
              clear R1 R2 GB
              go_wp2_with (first
                | (go_at_call 43; rw [EW.out]; refine (kk22 _).mono ?_; rintro e w' ⟨rfl, hw'⟩; rw [hw']; clear hw' w'))
              all_goals
                go_ret2
                exact ⟨by rw [HR1.out, HR2.out]; rfl, UP.out _ (Below.refl _ _)⟩
          · have FM : Hid (stmtForm ⟨5, s, ea, el, ec, ex, ba, bl, bc, la, ll, lc⟩ = ((s.toList == []) && decide (el = 1) && decide (bl = 0) && decide (ll = 0))) := (show stmtForm ⟨5, s, ea, el, ec, ex, ba, bl, bc, la, ll, lc⟩ = ((s.toList == []) && decide (el = 1) && decide (bl = 0) && decide (ll = 0)) by simp [stmtForm])
            have kk22 : ∀ W, Calls Try.prog 43 #[.int .i64 5, .int .i64 1, .int .i64 6] W fun e w' => e = .returned (.bool true) ∧ w' = W := fun W => isIn 5 1 6 W
            rcases Bool.eq_false_or_eq_true (s.toList == []) with hs0 | hs0
            · by_cases hel1 : el = 1
              · have del1 : decide (el = 1) = true := decide_eq_true hel1
                subst hel1
                by_cases hbl0 : bl = 0
                · have dbl0 : decide (bl = 0) = true := decide_eq_true hbl0
                  subst hbl0
                  by_cases hll0 : ll = 0
                  · have dll0 : decide (ll = 0) = true := decide_eq_true hll0
                    subst hll0
                    have GG : Hid (gk = if first ge 1 = 0 then if B = 0 then LL else B else first ge 1) := by rw [GH.out, FM.out, hs0, del1, dll0]; exact (rfl : _ = _)
                    clear GH FM
                    go_wp2_with (first
                      | (go_at_call 43; rw [EW.out]; refine (kk22 _).mono ?_; rintro e w' ⟨rfl, hw'⟩; rw [hw']; clear hw' w'))
                    all_goals
                      go_loopw [10] (fun i wq => ∃ j : Nat, j ≤ 1 ∧ i = .int .i64 j ∧ first ge j = 0 ∧ Below w2.heap.size w2 wq) (fun i _ => 1 - (intOf i).toNat)
                      case atStart => exact ⟨0, by omega, rfl, rfl, (Below.refl _ _)⟩
                      case round =>
                        revert wr
                        intro w4 hrel
                        obtain ⟨j, hj, rfl, hf, hbel4⟩ := hrel
                        have FJ : Hid (first ge j = 0) := hf
                        clear hf q0 q1 q2 q3 q4
                        obtain ⟨q0, q1, q2, q3, q4⟩ := BX.out _ hbel4
                        by_cases hjl : j < 1
                        · obtain ⟨y, b2, off2, ea', hc, hy⟩ := KE.out j hjl
                          obtain ⟨u0, u1, u2, u3, u4⟩ := hc _ hbel4
                          have ky := hy _ hbel4
                          subst ea'
                          obtain ⟨r, er⟩ : ∃ r, r = ge j := ⟨_, rfl⟩
                          rw [← er] at ky
                          have ER : Hid (r = ge j) := er
                          have hjI : (j : Int) < 1 := by omega
                          clear er hc hy KE KB KL
                          obtain ⟨zk, zn, zof, zs, zao, zlen, zcap⟩ := y
                          dsimp only at u0 u1 u2 u3 u4 ky
                          by_cases hr : r = 0
                          · subst hr
                            go_wp2_with (go_at_call 66; refine ky.mono ?_; rintro e w5 ⟨rfl, hb5⟩; have hb6 := hbel4.trans (hb5.mono hbel4.size))
                            go_roundw
                            case rel => exact ⟨j + 1, by omega, by go_num, by rw [first_succ FJ.out]; exact ER.out.symm, hb6⟩
                            case measure => simp [intOf]; omega
                          · have hr2 : (r == 0) = false := beq_eq_false_iff_ne.2 hr
                            obtain ⟨R1, R2⟩ := RET.out r (by rw [GG.out, first_stops hjl FJ.out (by rw [← ER.out]; exact hr), ← ER.out, if_neg hr]) hr
                            have HR1 : Hid _ := R1
                            have HR2 : Hid _ := R2
                            clear hr R1 R2
                            go_wp2_with (go_at_call 66; refine ky.mono ?_; rintro e w5 ⟨rfl, hb5⟩; have hb6 := hbel4.trans (hb5.mono hbel4.size))
                            go_ret2
                            exact ⟨by rw [HR1.out, HR2.out]; rfl, UP.out _ hb6⟩
                        · obtain rfl : j = 1 := by omega
                          have G2 : Hid (gk = if B = 0 then LL else B) := by rw [GG.out, FJ.out, if_pos rfl]; exact (rfl : _ = _)
                          clear KE
                          by_cases hB : B = 0
                          · by_cases hL : LL = 0
                            · obtain ⟨N1, N2⟩ := NEXT.out (by rw [G2.out, if_pos hB]; exact hL) hB hL
                              have HN1 : Hid _ := N1
                              have HN2 : Hid _ := N2
                              subst hB
                              subst hL
                              clear N1 N2 G2
                              go_wp2_with (first
                                | (go_at_call_of 44 (Value.slice ba 0 bc); refine (KB.out _ hbel4).mono ?_; rintro e w5 ⟨rfl, hb5⟩; have hb6 := hbel4.trans (hb5.mono hbel4.size); clear q0 q1 q2 q3 q4; obtain ⟨q0, q1, q2, q3, q4⟩ := BX.out _ hb6)
                                | (go_at_call_of 44 (Value.slice la 0 lc); refine (KL.out _ hb6).mono ?_; rintro e w6 ⟨rfl, hb7⟩; have hb8 := hb6.trans (hb7.mono hb6.size)))
                              go_roundw
                              case rel => exact ⟨k + 1, _, by omega, by go_num, rfl, by first | exact HN1.out | (rw [← HN1.out]; simp only [Count.wrapEq]), HN2.out, UP.out _ hb8⟩
                              case measure => simp [intOf]; omega
                            · have hL2 : (LL == 0) = false := beq_eq_false_iff_ne.2 hL
                              obtain ⟨R1, R2⟩ := RET.out LL (by rw [G2.out, if_pos hB]) hL
                              have HR1 : Hid _ := R1
                              have HR2 : Hid _ := R2
                              subst hB
                              clear hL R1 R2 G2
                              go_wp2_with (first
                                | (go_at_call_of 44 (Value.slice ba 0 bc); refine (KB.out _ hbel4).mono ?_; rintro e w5 ⟨rfl, hb5⟩; have hb6 := hbel4.trans (hb5.mono hbel4.size); clear q0 q1 q2 q3 q4; obtain ⟨q0, q1, q2, q3, q4⟩ := BX.out _ hb6)
                                | (go_at_call_of 44 (Value.slice la 0 lc); refine (KL.out _ hb6).mono ?_; rintro e w6 ⟨rfl, hb7⟩; have hb8 := hb6.trans (hb7.mono hb6.size)))
                              go_ret2
                              exact ⟨by rw [HR1.out, HR2.out]; rfl, UP.out _ hb8⟩
                          · have hB2 : (B == 0) = false := beq_eq_false_iff_ne.2 hB
                            obtain ⟨R1, R2⟩ := RET.out B (by rw [G2.out, if_neg hB]) hB
                            have HR1 : Hid _ := R1
                            have HR2 : Hid _ := R2
                            clear hB R1 R2 G2
                            go_wp2_with (go_at_call_of 44 (Value.slice ba 0 bc); refine (KB.out _ hbel4).mono ?_; rintro e w5 ⟨rfl, hb5⟩; have hb6 := hbel4.trans (hb5.mono hbel4.size))
                            go_ret2
                            exact ⟨by rw [HR1.out, HR2.out]; rfl, UP.out _ hb6⟩
                  · have dll0 : decide (ll = 0) = false := decide_eq_false hll0
                    have bll0 : ((ll : Int) == 0) = false := beq_eq_false_iff_ne.2 (by omega)
                    have GB : gk = 4 := by rw [GH.out, FM.out, hs0, del1, dbl0, dll0]; rfl
                    have e0 : (0 : Int) < ll := by omega
                    clear hll0
                    clear GH FM KE KB KL
                    obtain ⟨R1, R2⟩ := RET.out 4 GB (by decide)
                    have HR1 : Hid _ := R1
                    have HR2 : Hid _ := R2
                    clear R1 R2 GB
                    go_wp2_with (first
                      | (go_at_call 43; rw [EW.out]; refine (kk22 _).mono ?_; rintro e w' ⟨rfl, hw'⟩; rw [hw']; clear hw' w'))
                    all_goals
                      go_ret2
                      exact ⟨by rw [HR1.out, HR2.out]; rfl, UP.out _ (Below.refl _ _)⟩
                · have dbl0 : decide (bl = 0) = false := decide_eq_false hbl0
                  have bbl0 : ((bl : Int) == 0) = false := beq_eq_false_iff_ne.2 (by omega)
                  have GB : gk = 4 := by rw [GH.out, FM.out, hs0, del1, dbl0]; rfl
                  have e0 : (0 : Int) < bl := by omega
                  clear hbl0
                  clear GH FM KE KB KL
                  obtain ⟨R1, R2⟩ := RET.out 4 GB (by decide)
                  have HR1 : Hid _ := R1
                  have HR2 : Hid _ := R2
                  clear R1 R2 GB
                  go_wp2_with (first
                    | (go_at_call 43; rw [EW.out]; refine (kk22 _).mono ?_; rintro e w' ⟨rfl, hw'⟩; rw [hw']; clear hw' w'))
                  all_goals
                    go_ret2
                    exact ⟨by rw [HR1.out, HR2.out]; rfl, UP.out _ (Below.refl _ _)⟩
              · have del1 : decide (el = 1) = false := decide_eq_false hel1
                have bel1 : ((el : Int) == 1) = false := beq_eq_false_iff_ne.2 (by omega)
                have GB : gk = 4 := by rw [GH.out, FM.out, hs0, del1]; rfl
                clear hel1
                clear GH FM KE KB KL
                obtain ⟨R1, R2⟩ := RET.out 4 GB (by decide)
                have HR1 : Hid _ := R1
                have HR2 : Hid _ := R2
                clear R1 R2 GB
                go_wp2_with (first
                  | (go_at_call 43; rw [EW.out]; refine (kk22 _).mono ?_; rintro e w' ⟨rfl, hw'⟩; rw [hw']; clear hw' w'))
                all_goals
                  go_ret2
                  exact ⟨by rw [HR1.out, HR2.out]; rfl, UP.out _ (Below.refl _ _)⟩
            · have GB : gk = 4 := by rw [GH.out, FM.out, hs0]; rfl
              clear GH FM KE KB KL
              obtain ⟨R1, R2⟩ := RET.out 4 GB (by decide)
              have HR1 : Hid _ := R1
              have HR2 : Hid _ := R2
              clear R1 R2 GB
              go_wp2_with (first
                | (go_at_call 43; rw [EW.out]; refine (kk22 _).mono ?_; rintro e w' ⟨rfl, hw'⟩; rw [hw']; clear hw' w'))
              all_goals
                go_ret2
                exact ⟨by rw [HR1.out, HR2.out]; rfl, UP.out _ (Below.refl _ _)⟩
          · have FM : Hid (stmtForm ⟨6, s, ea, el, ec, ex, ba, bl, bc, la, ll, lc⟩ = ((s.toList == []) && decide (el = 1) && decide (bl = 0) && decide (ll = 0))) := (show stmtForm ⟨6, s, ea, el, ec, ex, ba, bl, bc, la, ll, lc⟩ = ((s.toList == []) && decide (el = 1) && decide (bl = 0) && decide (ll = 0)) by simp [stmtForm])
            have kk22 : ∀ W, Calls Try.prog 43 #[.int .i64 6, .int .i64 1, .int .i64 6] W fun e w' => e = .returned (.bool true) ∧ w' = W := fun W => isIn 6 1 6 W
            rcases Bool.eq_false_or_eq_true (s.toList == []) with hs0 | hs0
            · by_cases hel1 : el = 1
              · have del1 : decide (el = 1) = true := decide_eq_true hel1
                subst hel1
                by_cases hbl0 : bl = 0
                · have dbl0 : decide (bl = 0) = true := decide_eq_true hbl0
                  subst hbl0
                  by_cases hll0 : ll = 0
                  · have dll0 : decide (ll = 0) = true := decide_eq_true hll0
                    subst hll0
                    have GG : Hid (gk = if first ge 1 = 0 then if B = 0 then LL else B else first ge 1) := by rw [GH.out, FM.out, hs0, del1, dll0]; exact (rfl : _ = _)
                    clear GH FM
                    go_wp2_with (first
                      | (go_at_call 43; rw [EW.out]; refine (kk22 _).mono ?_; rintro e w' ⟨rfl, hw'⟩; rw [hw']; clear hw' w'))
                    all_goals
                      go_loopw [10] (fun i wq => ∃ j : Nat, j ≤ 1 ∧ i = .int .i64 j ∧ first ge j = 0 ∧ Below w2.heap.size w2 wq) (fun i _ => 1 - (intOf i).toNat)
                      case atStart => exact ⟨0, by omega, rfl, rfl, (Below.refl _ _)⟩
                      case round =>
                        revert wr
                        intro w4 hrel
                        obtain ⟨j, hj, rfl, hf, hbel4⟩ := hrel
                        have FJ : Hid (first ge j = 0) := hf
                        clear hf q0 q1 q2 q3 q4
                        obtain ⟨q0, q1, q2, q3, q4⟩ := BX.out _ hbel4
                        by_cases hjl : j < 1
                        · obtain ⟨y, b2, off2, ea', hc, hy⟩ := KE.out j hjl
                          obtain ⟨u0, u1, u2, u3, u4⟩ := hc _ hbel4
                          have ky := hy _ hbel4
                          subst ea'
                          obtain ⟨r, er⟩ : ∃ r, r = ge j := ⟨_, rfl⟩
                          rw [← er] at ky
                          have ER : Hid (r = ge j) := er
                          have hjI : (j : Int) < 1 := by omega
                          clear er hc hy KE KB KL
                          obtain ⟨zk, zn, zof, zs, zao, zlen, zcap⟩ := y
                          dsimp only at u0 u1 u2 u3 u4 ky
                          by_cases hr : r = 0
                          · subst hr
                            go_wp2_with (go_at_call 66; refine ky.mono ?_; rintro e w5 ⟨rfl, hb5⟩; have hb6 := hbel4.trans (hb5.mono hbel4.size))
                            go_roundw
                            case rel => exact ⟨j + 1, by omega, by go_num, by rw [first_succ FJ.out]; exact ER.out.symm, hb6⟩
                            case measure => simp [intOf]; omega
                          · have hr2 : (r == 0) = false := beq_eq_false_iff_ne.2 hr
                            obtain ⟨R1, R2⟩ := RET.out r (by rw [GG.out, first_stops hjl FJ.out (by rw [← ER.out]; exact hr), ← ER.out, if_neg hr]) hr
                            have HR1 : Hid _ := R1
                            have HR2 : Hid _ := R2
                            clear hr R1 R2
                            go_wp2_with (go_at_call 66; refine ky.mono ?_; rintro e w5 ⟨rfl, hb5⟩; have hb6 := hbel4.trans (hb5.mono hbel4.size))
                            go_ret2
                            exact ⟨by rw [HR1.out, HR2.out]; rfl, UP.out _ hb6⟩
                        · obtain rfl : j = 1 := by omega
                          have G2 : Hid (gk = if B = 0 then LL else B) := by rw [GG.out, FJ.out, if_pos rfl]; exact (rfl : _ = _)
                          clear KE
                          by_cases hB : B = 0
                          · by_cases hL : LL = 0
                            · obtain ⟨N1, N2⟩ := NEXT.out (by rw [G2.out, if_pos hB]; exact hL) hB hL
                              have HN1 : Hid _ := N1
                              have HN2 : Hid _ := N2
                              subst hB
                              subst hL
                              clear N1 N2 G2
                              go_wp2_with (first
                                | (go_at_call_of 44 (Value.slice ba 0 bc); refine (KB.out _ hbel4).mono ?_; rintro e w5 ⟨rfl, hb5⟩; have hb6 := hbel4.trans (hb5.mono hbel4.size); clear q0 q1 q2 q3 q4; obtain ⟨q0, q1, q2, q3, q4⟩ := BX.out _ hb6)
                                | (go_at_call_of 44 (Value.slice la 0 lc); refine (KL.out _ hb6).mono ?_; rintro e w6 ⟨rfl, hb7⟩; have hb8 := hb6.trans (hb7.mono hb6.size)))
                              go_roundw
                              case rel => exact ⟨k + 1, _, by omega, by go_num, rfl, by first | exact HN1.out | (rw [← HN1.out]; simp only [Count.wrapEq]), HN2.out, UP.out _ hb8⟩
                              case measure => simp [intOf]; omega
                            · have hL2 : (LL == 0) = false := beq_eq_false_iff_ne.2 hL
                              obtain ⟨R1, R2⟩ := RET.out LL (by rw [G2.out, if_pos hB]) hL
                              have HR1 : Hid _ := R1
                              have HR2 : Hid _ := R2
                              subst hB
                              clear hL R1 R2 G2
                              go_wp2_with (first
                                | (go_at_call_of 44 (Value.slice ba 0 bc); refine (KB.out _ hbel4).mono ?_; rintro e w5 ⟨rfl, hb5⟩; have hb6 := hbel4.trans (hb5.mono hbel4.size); clear q0 q1 q2 q3 q4; obtain ⟨q0, q1, q2, q3, q4⟩ := BX.out _ hb6)
                                | (go_at_call_of 44 (Value.slice la 0 lc); refine (KL.out _ hb6).mono ?_; rintro e w6 ⟨rfl, hb7⟩; have hb8 := hb6.trans (hb7.mono hb6.size)))
                              go_ret2
                              exact ⟨by rw [HR1.out, HR2.out]; rfl, UP.out _ hb8⟩
                          · have hB2 : (B == 0) = false := beq_eq_false_iff_ne.2 hB
                            obtain ⟨R1, R2⟩ := RET.out B (by rw [G2.out, if_neg hB]) hB
                            have HR1 : Hid _ := R1
                            have HR2 : Hid _ := R2
                            clear hB R1 R2 G2
                            go_wp2_with (go_at_call_of 44 (Value.slice ba 0 bc); refine (KB.out _ hbel4).mono ?_; rintro e w5 ⟨rfl, hb5⟩; have hb6 := hbel4.trans (hb5.mono hbel4.size))
                            go_ret2
                            exact ⟨by rw [HR1.out, HR2.out]; rfl, UP.out _ hb6⟩
                  · have dll0 : decide (ll = 0) = false := decide_eq_false hll0
                    have bll0 : ((ll : Int) == 0) = false := beq_eq_false_iff_ne.2 (by omega)
                    have GB : gk = 4 := by rw [GH.out, FM.out, hs0, del1, dbl0, dll0]; rfl
                    have e0 : (0 : Int) < ll := by omega
                    clear hll0
                    clear GH FM KE KB KL
                    obtain ⟨R1, R2⟩ := RET.out 4 GB (by decide)
                    have HR1 : Hid _ := R1
                    have HR2 : Hid _ := R2
                    clear R1 R2 GB
                    go_wp2_with (first
                      | (go_at_call 43; rw [EW.out]; refine (kk22 _).mono ?_; rintro e w' ⟨rfl, hw'⟩; rw [hw']; clear hw' w'))
                    all_goals
                      go_ret2
                      exact ⟨by rw [HR1.out, HR2.out]; rfl, UP.out _ (Below.refl _ _)⟩
                · have dbl0 : decide (bl = 0) = false := decide_eq_false hbl0
                  have bbl0 : ((bl : Int) == 0) = false := beq_eq_false_iff_ne.2 (by omega)
                  have GB : gk = 4 := by rw [GH.out, FM.out, hs0, del1, dbl0]; rfl
                  have e0 : (0 : Int) < bl := by omega
                  clear hbl0
                  clear GH FM KE KB KL
                  obtain ⟨R1, R2⟩ := RET.out 4 GB (by decide)
                  have HR1 : Hid _ := R1
                  have HR2 : Hid _ := R2
                  clear R1 R2 GB
                  go_wp2_with (first
                    | (go_at_call 43; rw [EW.out]; refine (kk22 _).mono ?_; rintro e w' ⟨rfl, hw'⟩; rw [hw']; clear hw' w'))
                  all_goals
                    go_ret2
                    exact ⟨by rw [HR1.out, HR2.out]; rfl, UP.out _ (Below.refl _ _)⟩
              · have del1 : decide (el = 1) = false := decide_eq_false hel1
                have bel1 : ((el : Int) == 1) = false := beq_eq_false_iff_ne.2 (by omega)
                have GB : gk = 4 := by rw [GH.out, FM.out, hs0, del1]; rfl
                clear hel1
                clear GH FM KE KB KL
                obtain ⟨R1, R2⟩ := RET.out 4 GB (by decide)
                have HR1 : Hid _ := R1
                have HR2 : Hid _ := R2
                clear R1 R2 GB
                go_wp2_with (first
                  | (go_at_call 43; rw [EW.out]; refine (kk22 _).mono ?_; rintro e w' ⟨rfl, hw'⟩; rw [hw']; clear hw' w'))
                all_goals
                  go_ret2
                  exact ⟨by rw [HR1.out, HR2.out]; rfl, UP.out _ (Below.refl _ _)⟩
            · have GB : gk = 4 := by rw [GH.out, FM.out, hs0]; rfl
              clear GH FM KE KB KL
              obtain ⟨R1, R2⟩ := RET.out 4 GB (by decide)
              have HR1 : Hid _ := R1
              have HR2 : Hid _ := R2
              clear R1 R2 GB
              go_wp2_with (first
                | (go_at_call 43; rw [EW.out]; refine (kk22 _).mono ?_; rintro e w' ⟨rfl, hw'⟩; rw [hw']; clear hw' w'))
              all_goals
                go_ret2
                exact ⟨by rw [HR1.out, HR2.out]; rfl, UP.out _ (Below.refl _ _)⟩
        · have hd1 : decide (1 ≤ kind ∧ kind ≤ 6) = false := decide_eq_false hkind
          have kk22 : ∀ W, Calls Try.prog 43 #[.int .i64 kind, .int .i64 1, .int .i64 6] W fun e w' => e = .returned (.bool false) ∧ w' = W := fun W => by rw [← hd1]; exact isIn kind 1 6 W
          rw [if_neg hkind] at GH0
          obtain ⟨R1, R2⟩ := RET.out 3 (by rw [GH0]; rfl) (by decide)
          have HR1 : Hid _ := R1
          have HR2 : Hid _ := R2
          have EW : Hid _ := EW0
          clear R1 R2 GH0 EW0 hkind hd1 KB KL KE
          go_wp2_with (go_at_call 43; rw [EW.out]; refine (kk22 _).mono ?_; rintro e w' ⟨rfl, hw'⟩; rw [hw']; clear hw' w')
          go_ret2
          exact ⟨by rw [HR1.out, HR2.out]; rfl, UP.out _ (Below.refl _ _)⟩
      · obtain rfl : k = len := by omega
        have R1 : Hid (RR = 0) := ERR.out.trans FK.out
        have R2 : Hid (CC = m) := by rw [ECC.out, R1.out, if_pos rfl, EM.out]; exact (rfl : _ = _)
        clear IH HI HF HG ERR ECC EM FK
        go_wp2
        go_ret2
        exact ⟨by rw [R1.out, R2.out]; rfl, hbel⟩
end Go.Proofs.Ytalnfnkpemojhaa.RefStmts
