/-
  WHAT (names.scope).stmt AND stmts GIVE: whether all that statements name is there (P7.2).
  Conditions: the scope's functions find what is there; the statements lie there, and may be.
-/
import Derived.Test.YtgjemlhnlpglbaaDoorR32
namespace Go.Proofs.YtgjemlhnlpglbaaDoor.NStmts
open Go.RowKit NPlace NPlain NUnits NLists Go.Proofs.YtgjemlhnlpglbaaDoor.Ident Trees Forms NSense NScope NAsk NNamed NExprs

theorem stmt_zero {d : Nat} {T : STree} (h : Trees.stmtFault d T = 0) : Trees.headFault (T []) = 0 ∧ Trees.stmtsFault d (T []).bl (inBody T) = 0 ∧ Trees.stmtsFault d (T []).ll (inElse T) = 0 := by
  unfold Trees.stmtFault at h
  split at h
  · rename_i h0
    split at h
    · rename_i h1
      exact ⟨h0, h1, h⟩
    · contradiction
  · contradiction

theorem head_zero {x : SNode} (h : Trees.headFault x = 0) : ∀ j, j < x.el → Trees.exprFault 12 (x.ex j) = 0 := by
  unfold Trees.headFault at h
  split at h
  · split at h
    · exact first_zero h
    · cases h
  · cases h

set_option maxHeartbeats 8000000 in
theorem stmt {B : World} {la ar pu pp : Value} {len : Nat} {U : Nat → UnitD} {u : UnitD} {f : FuncD} (hS : Scope B la ar pu pp len U u f) (d : Nat) (T : STree) (w : World)
    (h27 : ∀ (W : World) (ao : Option Addr) (n cap : Nat) (L : Nat → STree), Below B.heap.size B W → n ≤ maxLen → SRow W d ao n L → Trees.stmtsFault d n L = 0 → Calls Tryd.prog 46 #[.agg #[.func (.func 62) #[la] #[], .func (.func 62) #[ar] #[], .func (.func 63) #[] #[pu, pp]], .slice ao n cap] W fun e w' => e = .returned (.int .i64 (stmtsSense len U u f d n L)) ∧ Below W.heap.size W w')
    (hb : Below B.heap.size B w) (hT : SLies w d T) (hz : Trees.stmtFault d T = 0) :
    Calls Tryd.prog 65 #[.agg #[.func (.func 62) #[la] #[], .func (.func 62) #[ar] #[], .func (.func 63) #[] #[pu, pp]], .agg #[.int .i64 (T []).kind, .string (T []).s, .slice (T []).ea (T []).el (T []).ec, .slice (T []).ba (T []).bl (T []).bc, .slice (T []).la (T []).ll (T []).lc]] w fun e w' => e = .returned (.int .i64 (stmtSense len U u f d T)) ∧ Below w.heap.size w w' := by
  obtain ⟨z0, z1, z2⟩ := stmt_zero hz
  obtain ⟨⟨_, hel, hbl, hll⟩, hE, hB, hL⟩ := hT
  have kv : ∀ W, Below w.heap.size w W → _ := fun W h => hS.var W (T []).s (hb.trans (h.mono hb.size))
  have ka : ∀ W, Below w.heap.size w W → _ := fun W h => hS.arr W (T []).s (hb.trans (h.mono hb.size))
  have ke : ∀ W, Below w.heap.size w W → _ := fun W h => exprs hS 12 W (T []).ea (T []).el (T []).ec (T []).ex (hb.trans (h.mono hb.size)) hel (ERow_below h hE) (head_zero z0)
  have kb : ∀ W, Below w.heap.size w W → _ := fun W h => h27 W (T []).ba (T []).bl (T []).bc (inBody T) (hb.trans (h.mono hb.size)) hbl (SRow_below h hB) z1
  have kl : ∀ W, Below w.heap.size w W → _ := fun W h => h27 W (T []).la (T []).ll (T []).lc (inElse T) (hb.trans (h.mono hb.size)) hll (SRow_below h hL) z2
  have e43 := Tryd.call62
  have SS : stmtSense len U u f d T = if headSense len U u f (T []) = 0 then if stmtsSense len U u f d (T []).bl (inBody T) = 0 then stmtsSense len U u f d (T []).ll (inElse T) else stmtsSense len U u f d (T []).bl (inBody T) else headSense len U u f (T []) := rfl
  have SH : headSense len U u f (T []) = if setFault u f (T []) = 0 then first (fun j => exprSense len U u f 12 ((T []).ex j)) (T []).el else setFault u f (T []) := rfl
  have SF : setFault u f (T []) = if (T []).kind = 1 then (if varThere u f (T []).s = true then 0 else 5) else if (T []).kind = 2 then (if arrayThere u (T []).s = true then 0 else 5) else 0 := rfl
  obtain ⟨r, er⟩ : ∃ r, r = stmtSense len U u f d T := ⟨_, rfl⟩
  rw [← er] at SS ⊢
  generalize headSense len U u f (T []) = hd at SS SH
  generalize setFault u f (T []) = sf at SH SF
  generalize varThere u f (T []).s = bv at kv SF
  generalize arrayThere u (T []).s = ba at ka SF
  generalize first (fun j => exprSense len U u f 12 ((T []).ex j)) (T []).el = r1 at ke SH
  generalize stmtsSense len U u f d (T []).bl (inBody T) = r2 at kb SS
  generalize stmtsSense len U u f d (T []).ll (inElse T) = r3 at kl SS
  clear h27 hE hB hL z0 z1 z2 hz hb hS er
  generalize T [] = x at *
  obtain ⟨kind, s, ea, el, ec, ex, ba', bl, bc, la', ll, lc⟩ := x
  dsimp only at *
  unfold maxLen at hel hbl hll
  have hI1 : (el : Int) ≤ 9223372036854775807 := by omega
  have hI2 : (bl : Int) ≤ 9223372036854775807 := by omega
  have hI3 : (ll : Int) ≤ 9223372036854775807 := by omega
  obtain ⟨w0, ew⟩ : ∃ w0, w0 = (w.alloc (.cells #[.func (.func 62) #[la] #[], .func (.func 62) #[ar] #[], .func (.func 63) #[] #[pu, pp]] 100)).alloc (.cells #[.int .i64 kind, .string s, .slice ea el ec, .slice ba' bl bc, .slice la' ll lc] 34) := ⟨_, rfl⟩
  have hb0 : Below w.heap.size w w0 := by rw [ew]; exact below2 w _ _
  have bx : ∀ W, Below w0.heap.size w0 W → (W.cell? ⟨w.heap.size, 0, none⟩ = some (.func (.func 62) #[la] #[]) ∧ W.cell? ⟨w.heap.size, 1, none⟩ = some (.func (.func 62) #[ar] #[]) ∧ W.cell? ⟨w.heap.size, 2, none⟩ = some (.func (.func 63) #[] #[pu, pp])) ∧ (W.cell? ⟨w.heap.size + 1, 0, none⟩ = some (.int .i64 kind) ∧ W.cell? ⟨w.heap.size + 1, 1, none⟩ = some (.string s) ∧ W.cell? ⟨w.heap.size + 1, 2, none⟩ = some (.slice ea el ec) ∧ W.cell? ⟨w.heap.size + 1, 3, none⟩ = some (.slice ba' bl bc) ∧ W.cell? ⟨w.heap.size + 1, 4, none⟩ = some (.slice la' ll lc)) := by
    rw [ew]
    exact fun W h => two_cells h
  have EW : Hid ((w.alloc (.cells #[.func (.func 62) #[la] #[], .func (.func 62) #[ar] #[], .func (.func 63) #[] #[pu, pp]] 100)).alloc (.cells #[.int .i64 kind, .string s, .slice ea el ec, .slice ba' bl bc, .slice la' ll lc] 34) = w0) := ew.symm
  have way : (sf = 5 ∧ ((kind = 1 ∧ bv = false) ∨ (kind = 2 ∧ ba = false))) ∨ (sf = 0 ∧ ((kind = 1 ∧ bv = true) ∨ (kind = 2 ∧ ba = true) ∨ (kind ≠ 1 ∧ kind ≠ 2))) := by
    by_cases h1 : kind = 1
    · rw [if_pos h1] at SF
      cases bv
      · exact .inl ⟨SF, .inl ⟨h1, rfl⟩⟩
      · exact .inr ⟨SF, .inl ⟨h1, rfl⟩⟩
    · rw [if_neg h1] at SF
      by_cases h2 : kind = 2
      · rw [if_pos h2] at SF
        cases ba
        · exact .inl ⟨SF, .inr ⟨h2, rfl⟩⟩
        · exact .inr ⟨SF, .inr (.inl ⟨h2, rfl⟩)⟩
      · rw [if_neg h2] at SF
        exact .inr ⟨SF, .inr (.inr ⟨h1, h2⟩)⟩
  have KV : Hid _ := kv
  have KA : Hid _ := ka
  have KE : Hid _ := ke
  have KB : Hid _ := kb
  have KL : Hid _ := kl
  have BX : Hid _ := bx
  have HB0 : Hid _ := hb0
  clear kv ka ke kb kl bx hb0 ew hel hbl hll SF
  rcases way with ⟨hsf, way⟩ | ⟨hsf, way⟩
  · have E : Hid (r = 5) := by
      rw [hsf, if_neg (by decide)] at SH
      rw [SH, if_neg (by decide)] at SS
      exact SS
    clear SS SH hsf KE KB KL BX
    rcases way with ⟨rfl, rfl⟩ | ⟨rfl, rfl⟩
    · go_enter Tryd.func65, Tryd.ntmps65
      go_wp2_with (go_at_call 62; rw [EW.out]; refine (KV.out _ HB0.out).mono ?_; rintro e w1 ⟨rfl, hb1⟩; have HB1 : Hid _ := hb1; clear hb1)
      go_ret
      exact ⟨by rw [E.out]; rfl, HB0.out.trans (HB1.out.mono HB0.out.size)⟩
    · go_enter Tryd.func65, Tryd.ntmps65
      go_wp2_with (go_at_call 62; rw [EW.out]; refine (KA.out _ HB0.out).mono ?_; rintro e w1 ⟨rfl, hb1⟩; have HB1 : Hid _ := hb1; clear hb1)
      go_ret
      exact ⟨by rw [E.out]; rfl, HB0.out.trans (HB1.out.mono HB0.out.size)⟩
  · rw [if_pos hsf] at SH
    clear hsf
    rcases way with ⟨rfl, rfl⟩ | ⟨rfl, rfl⟩ | ⟨n1, n2⟩
    · skip
      by_cases h1 : r1 = 0
      · have SS2 : r = if r2 = 0 then r3 else r2 := by rw [SS, SH, if_pos h1]
        subst h1
        by_cases h2 : r2 = 0
        · have E : Hid (r = r3) := by rw [SS2, if_pos h2]; exact (rfl : r3 = r3)
          subst h2
          clear SS SS2 SH
          go_enter Tryd.func65, Tryd.ntmps65
          go_wp2_with (first
            | (go_at_call 62; rw [EW.out]; refine (KV.out _ HB0.out).mono ?_; rintro e w1 ⟨rfl, hb1⟩; obtain ⟨⟨q0, q1, q2⟩, ⟨c0, c1, c2, c3, c4⟩⟩ := BX.out _ hb1; have Z2 : Hid _ := hb1; have H2 : Hid _ := HB0.out.trans (hb1.mono HB0.out.size); clear hb1)
            | (go_at_call 70; refine (KE.out _ H2.out).mono ?_; rintro e w3 ⟨rfl, hb3⟩; clear q0 q1 q2 c0 c1 c2 c3 c4; obtain ⟨⟨q0, q1, q2⟩, ⟨c0, c1, c2, c3, c4⟩⟩ := BX.out _ (Z2.out.trans (hb3.mono Z2.out.size)); have Z3 : Hid _ := Z2.out.trans (hb3.mono Z2.out.size); have H3 : Hid _ := H2.out.trans (hb3.mono H2.out.size); clear hb3))
          refine (KB.out _ H3.out).mono ?_
          rintro e w4 ⟨rfl, hb4⟩
          clear q0 q1 q2 c0 c1 c2 c3 c4
          obtain ⟨⟨q0, q1, q2⟩, ⟨c0, c1, c2, c3, c4⟩⟩ := BX.out _ (Z3.out.trans (hb4.mono Z3.out.size))
          have H4 : Hid _ := H3.out.trans (hb4.mono H3.out.size)
          clear hb4
          go_wp2_with fail
          refine (KL.out _ H4.out).mono ?_
          rintro e w5 ⟨rfl, hb5⟩
          have H5 : Hid _ := H4.out.trans (hb5.mono H4.out.size)
          clear hb5
          go_wp2_with fail
          go_ret
          exact ⟨by rw [E.out]; rfl, H5.out⟩
        · have r2n : (r2 == 0) = false := beq_eq_false_iff_ne.2 h2
          have E : Hid (r = r2) := by rw [SS2, if_neg h2]; exact (rfl : r2 = r2)
          clear SS SS2 SH h2 KL
          go_enter Tryd.func65, Tryd.ntmps65
          go_wp2_with (first
            | (go_at_call 62; rw [EW.out]; refine (KV.out _ HB0.out).mono ?_; rintro e w1 ⟨rfl, hb1⟩; obtain ⟨⟨q0, q1, q2⟩, ⟨c0, c1, c2, c3, c4⟩⟩ := BX.out _ hb1; have Z2 : Hid _ := hb1; have H2 : Hid _ := HB0.out.trans (hb1.mono HB0.out.size); clear hb1)
            | (go_at_call 70; refine (KE.out _ H2.out).mono ?_; rintro e w3 ⟨rfl, hb3⟩; clear q0 q1 q2 c0 c1 c2 c3 c4; obtain ⟨⟨q0, q1, q2⟩, ⟨c0, c1, c2, c3, c4⟩⟩ := BX.out _ (Z2.out.trans (hb3.mono Z2.out.size)); have Z3 : Hid _ := Z2.out.trans (hb3.mono Z2.out.size); have H3 : Hid _ := H2.out.trans (hb3.mono H2.out.size); clear hb3))
          refine (KB.out _ H3.out).mono ?_
          rintro e w4 ⟨rfl, hb4⟩
          have H4 : Hid _ := H3.out.trans (hb4.mono H3.out.size)
          clear hb4 q0 q1 q2 c0 c1 c2 c3 c4
          go_wp2_with fail
          go_ret
          exact ⟨by rw [E.out]; rfl, H4.out⟩
      · have r1n : (r1 == 0) = false := beq_eq_false_iff_ne.2 h1
        have E : Hid (r = r1) := by rw [SS, SH, if_neg h1]; exact (rfl : r1 = r1)
        clear SS SH h1 KB KL
        go_enter Tryd.func65, Tryd.ntmps65
        go_wp2_with (first
          | (go_at_call 62; rw [EW.out]; refine (KV.out _ HB0.out).mono ?_; rintro e w1 ⟨rfl, hb1⟩; obtain ⟨⟨q0, q1, q2⟩, ⟨c0, c1, c2, c3, c4⟩⟩ := BX.out _ hb1; have Z2 : Hid _ := hb1; have H2 : Hid _ := HB0.out.trans (hb1.mono HB0.out.size); clear hb1)
          | (go_at_call 70; refine (KE.out _ H2.out).mono ?_; rintro e w3 ⟨rfl, hb3⟩; clear q0 q1 q2 c0 c1 c2 c3 c4; obtain ⟨⟨q0, q1, q2⟩, ⟨c0, c1, c2, c3, c4⟩⟩ := BX.out _ (Z2.out.trans (hb3.mono Z2.out.size)); have Z3 : Hid _ := Z2.out.trans (hb3.mono Z2.out.size); have H3 : Hid _ := H2.out.trans (hb3.mono H2.out.size); clear hb3))
        go_ret
        exact ⟨by rw [E.out]; rfl, H3.out⟩
    · skip
      by_cases h1 : r1 = 0
      · have SS2 : r = if r2 = 0 then r3 else r2 := by rw [SS, SH, if_pos h1]
        subst h1
        by_cases h2 : r2 = 0
        · have E : Hid (r = r3) := by rw [SS2, if_pos h2]; exact (rfl : r3 = r3)
          subst h2
          clear SS SS2 SH
          go_enter Tryd.func65, Tryd.ntmps65
          go_wp2_with (first
            | (go_at_call 62; rw [EW.out]; refine (KA.out _ HB0.out).mono ?_; rintro e w1 ⟨rfl, hb1⟩; obtain ⟨⟨q0, q1, q2⟩, ⟨c0, c1, c2, c3, c4⟩⟩ := BX.out _ hb1; have Z2 : Hid _ := hb1; have H2 : Hid _ := HB0.out.trans (hb1.mono HB0.out.size); clear hb1)
            | (go_at_call 70; refine (KE.out _ H2.out).mono ?_; rintro e w3 ⟨rfl, hb3⟩; clear q0 q1 q2 c0 c1 c2 c3 c4; obtain ⟨⟨q0, q1, q2⟩, ⟨c0, c1, c2, c3, c4⟩⟩ := BX.out _ (Z2.out.trans (hb3.mono Z2.out.size)); have Z3 : Hid _ := Z2.out.trans (hb3.mono Z2.out.size); have H3 : Hid _ := H2.out.trans (hb3.mono H2.out.size); clear hb3))
          refine (KB.out _ H3.out).mono ?_
          rintro e w4 ⟨rfl, hb4⟩
          clear q0 q1 q2 c0 c1 c2 c3 c4
          obtain ⟨⟨q0, q1, q2⟩, ⟨c0, c1, c2, c3, c4⟩⟩ := BX.out _ (Z3.out.trans (hb4.mono Z3.out.size))
          have H4 : Hid _ := H3.out.trans (hb4.mono H3.out.size)
          clear hb4
          go_wp2_with fail
          refine (KL.out _ H4.out).mono ?_
          rintro e w5 ⟨rfl, hb5⟩
          have H5 : Hid _ := H4.out.trans (hb5.mono H4.out.size)
          clear hb5
          go_wp2_with fail
          go_ret
          exact ⟨by rw [E.out]; rfl, H5.out⟩
        · have r2n : (r2 == 0) = false := beq_eq_false_iff_ne.2 h2
          have E : Hid (r = r2) := by rw [SS2, if_neg h2]; exact (rfl : r2 = r2)
          clear SS SS2 SH h2 KL
          go_enter Tryd.func65, Tryd.ntmps65
          go_wp2_with (first
            | (go_at_call 62; rw [EW.out]; refine (KA.out _ HB0.out).mono ?_; rintro e w1 ⟨rfl, hb1⟩; obtain ⟨⟨q0, q1, q2⟩, ⟨c0, c1, c2, c3, c4⟩⟩ := BX.out _ hb1; have Z2 : Hid _ := hb1; have H2 : Hid _ := HB0.out.trans (hb1.mono HB0.out.size); clear hb1)
            | (go_at_call 70; refine (KE.out _ H2.out).mono ?_; rintro e w3 ⟨rfl, hb3⟩; clear q0 q1 q2 c0 c1 c2 c3 c4; obtain ⟨⟨q0, q1, q2⟩, ⟨c0, c1, c2, c3, c4⟩⟩ := BX.out _ (Z2.out.trans (hb3.mono Z2.out.size)); have Z3 : Hid _ := Z2.out.trans (hb3.mono Z2.out.size); have H3 : Hid _ := H2.out.trans (hb3.mono H2.out.size); clear hb3))
          refine (KB.out _ H3.out).mono ?_
          rintro e w4 ⟨rfl, hb4⟩
          have H4 : Hid _ := H3.out.trans (hb4.mono H3.out.size)
          clear hb4 q0 q1 q2 c0 c1 c2 c3 c4
          go_wp2_with fail
          go_ret
          exact ⟨by rw [E.out]; rfl, H4.out⟩
      · have r1n : (r1 == 0) = false := beq_eq_false_iff_ne.2 h1
        have E : Hid (r = r1) := by rw [SS, SH, if_neg h1]; exact (rfl : r1 = r1)
        clear SS SH h1 KB KL
        go_enter Tryd.func65, Tryd.ntmps65
        go_wp2_with (first
          | (go_at_call 62; rw [EW.out]; refine (KA.out _ HB0.out).mono ?_; rintro e w1 ⟨rfl, hb1⟩; obtain ⟨⟨q0, q1, q2⟩, ⟨c0, c1, c2, c3, c4⟩⟩ := BX.out _ hb1; have Z2 : Hid _ := hb1; have H2 : Hid _ := HB0.out.trans (hb1.mono HB0.out.size); clear hb1)
          | (go_at_call 70; refine (KE.out _ H2.out).mono ?_; rintro e w3 ⟨rfl, hb3⟩; clear q0 q1 q2 c0 c1 c2 c3 c4; obtain ⟨⟨q0, q1, q2⟩, ⟨c0, c1, c2, c3, c4⟩⟩ := BX.out _ (Z2.out.trans (hb3.mono Z2.out.size)); have Z3 : Hid _ := Z2.out.trans (hb3.mono Z2.out.size); have H3 : Hid _ := H2.out.trans (hb3.mono H2.out.size); clear hb3))
        go_ret
        exact ⟨by rw [E.out]; rfl, H3.out⟩
    · have m1 : (kind == 1) = false := beq_eq_false_iff_ne.2 n1
      have m2 : (kind == 2) = false := beq_eq_false_iff_ne.2 n2
      clear n1 n2
      have Z2 : Hid (Below w0.heap.size w0 w0) := Below.refl _ _
      have H2 : Hid (Below w.heap.size w w0) := HB0.out
      by_cases h1 : r1 = 0
      · have SS2 : r = if r2 = 0 then r3 else r2 := by rw [SS, SH, if_pos h1]
        subst h1
        by_cases h2 : r2 = 0
        · have E : Hid (r = r3) := by rw [SS2, if_pos h2]; exact (rfl : r3 = r3)
          subst h2
          clear SS SS2 SH
          go_enter Tryd.func65, Tryd.ntmps65
          go_wp2_with (go_at_call 70; rw [EW.out]; refine (KE.out _ H2.out).mono ?_; rintro e w3 ⟨rfl, hb3⟩; obtain ⟨⟨q0, q1, q2⟩, ⟨c0, c1, c2, c3, c4⟩⟩ := BX.out _ (Z2.out.trans (hb3.mono Z2.out.size)); have Z3 : Hid _ := Z2.out.trans (hb3.mono Z2.out.size); have H3 : Hid _ := H2.out.trans (hb3.mono H2.out.size); clear hb3)
          refine (KB.out _ H3.out).mono ?_
          rintro e w4 ⟨rfl, hb4⟩
          clear q0 q1 q2 c0 c1 c2 c3 c4
          obtain ⟨⟨q0, q1, q2⟩, ⟨c0, c1, c2, c3, c4⟩⟩ := BX.out _ (Z3.out.trans (hb4.mono Z3.out.size))
          have H4 : Hid _ := H3.out.trans (hb4.mono H3.out.size)
          clear hb4
          go_wp2_with fail
          refine (KL.out _ H4.out).mono ?_
          rintro e w5 ⟨rfl, hb5⟩
          have H5 : Hid _ := H4.out.trans (hb5.mono H4.out.size)
          clear hb5
          go_wp2_with fail
          go_ret
          exact ⟨by rw [E.out]; rfl, H5.out⟩
        · have r2n : (r2 == 0) = false := beq_eq_false_iff_ne.2 h2
          have E : Hid (r = r2) := by rw [SS2, if_neg h2]; exact (rfl : r2 = r2)
          clear SS SS2 SH h2 KL
          go_enter Tryd.func65, Tryd.ntmps65
          go_wp2_with (go_at_call 70; rw [EW.out]; refine (KE.out _ H2.out).mono ?_; rintro e w3 ⟨rfl, hb3⟩; obtain ⟨⟨q0, q1, q2⟩, ⟨c0, c1, c2, c3, c4⟩⟩ := BX.out _ (Z2.out.trans (hb3.mono Z2.out.size)); have Z3 : Hid _ := Z2.out.trans (hb3.mono Z2.out.size); have H3 : Hid _ := H2.out.trans (hb3.mono H2.out.size); clear hb3)
          refine (KB.out _ H3.out).mono ?_
          rintro e w4 ⟨rfl, hb4⟩
          have H4 : Hid _ := H3.out.trans (hb4.mono H3.out.size)
          clear hb4 q0 q1 q2 c0 c1 c2 c3 c4
          go_wp2_with fail
          go_ret
          exact ⟨by rw [E.out]; rfl, H4.out⟩
      · have r1n : (r1 == 0) = false := beq_eq_false_iff_ne.2 h1
        have E : Hid (r = r1) := by rw [SS, SH, if_neg h1]; exact (rfl : r1 = r1)
        clear SS SH h1 KB KL
        go_enter Tryd.func65, Tryd.ntmps65
        go_wp2_with (go_at_call 70; rw [EW.out]; refine (KE.out _ H2.out).mono ?_; rintro e w3 ⟨rfl, hb3⟩; obtain ⟨⟨q0, q1, q2⟩, ⟨c0, c1, c2, c3, c4⟩⟩ := BX.out _ (Z2.out.trans (hb3.mono Z2.out.size)); have Z3 : Hid _ := Z2.out.trans (hb3.mono Z2.out.size); have H3 : Hid _ := H2.out.trans (hb3.mono H2.out.size); clear hb3)
        go_ret
        exact ⟨by rw [E.out]; rfl, H3.out⟩

set_option maxHeartbeats 4000000 in
theorem stmts {B : World} {la ar pu pp : Value} {len : Nat} {U : Nat → UnitD} {u : UnitD} {f : FuncD} (hS : Scope B la ar pu pp len U u f) : ∀ (d : Nat) (w : World) (ao : Option Addr) (n cap : Nat) (L : Nat → STree), Below B.heap.size B w → n ≤ maxLen → SRow w d ao n L → Trees.stmtsFault d n L = 0 →
    Calls Tryd.prog 46 #[.agg #[.func (.func 62) #[la] #[], .func (.func 62) #[ar] #[], .func (.func 63) #[] #[pu, pp]], .slice ao n cap] w fun e w' => e = .returned (.int .i64 (stmtsSense len U u f d n L)) ∧ Below w.heap.size w w' := by
  intro d
  induction d with
  | zero =>
    intro w ao n cap L _ _ _ hf
    exact absurd hf (by show ¬ (1 : Int) = 0; decide)
  | succ d ih =>
    intro w ao n cap L hb hn hin hf
    have hz := first_zero ((Trees.stmtsFault_succ d n L).symm.trans hf)
    have ks : ∀ (k : Nat) (W : World), k < n → Below w.heap.size w W → SLies W d (L k) → _ := fun k W hk h hT => stmt hS d (L k) W ih (hb.trans (h.mono hb.size)) hT (hz k hk)
    obtain ⟨F, eF⟩ : ∃ F : Nat → Int, F = fun i => stmtSense len U u f d (L i) := ⟨_, rfl⟩
    have HF : Hid (∀ k, F k = stmtSense len U u f d (L k)) := fun k => by rw [eF]
    have ES : Hid (stmtsSense len U u f (d + 1) n L = first F n) := by rw [eF]; exact stmtsSense_succ len U u f d n L
    have KS : Hid _ := ks
    have HI : Hid (SRow w (d + 1) ao n L) := hin
    obtain ⟨w0, ew⟩ : ∃ w0, w0 = w.alloc (.cells #[.func (.func 62) #[la] #[], .func (.func 62) #[ar] #[], .func (.func 63) #[] #[pu, pp]] 100) := ⟨_, rfl⟩
    have hb0 : Below w.heap.size w w0 := by rw [ew]; exact (Below.refl w.heap.size w).alloc (Nat.le_refl _) _
    have bx : ∀ W, Below w0.heap.size w0 W → W.cell? ⟨w.heap.size, 0, none⟩ = some (.func (.func 62) #[la] #[]) ∧ W.cell? ⟨w.heap.size, 1, none⟩ = some (.func (.func 62) #[ar] #[]) ∧ W.cell? ⟨w.heap.size, 2, none⟩ = some (.func (.func 63) #[] #[pu, pp]) := by
      rw [ew]
      exact fun W h => box3 h
    have EW : Hid (w.alloc (.cells #[.func (.func 62) #[la] #[], .func (.func 62) #[ar] #[], .func (.func 63) #[] #[pu, pp]] 100) = w0) := ew.symm
    have BX : Hid _ := bx
    have HB0 : Hid _ := hb0
    unfold maxLen at hn
    have hnI : (n : Int) ≤ 9223372036854775807 := by omega
    clear ks hin hb hS hb0 ih hf hz eF bx ew hn
    go_enter Tryd.func46, Tryd.ntmps46
    go_wp2
    rw [EW.out]
    go_loopw [10] (fun i wr => ∃ k : Nat, k ≤ n ∧ i = .int .i64 k ∧ first F k = 0 ∧ Below w0.heap.size w0 wr) (fun i _ => n - (intOf i).toNat)
    case atStart => exact ⟨0, Nat.zero_le _, rfl, rfl, Below.refl _ _⟩
    case round =>
      obtain ⟨k, hk, rfl, hfk, hbel⟩ := hrel
      have FK : Hid (first F k = 0) := hfk
      have hup := HB0.out.trans (hbel.mono HB0.out.size)
      have UP : Hid _ := hup
      clear hfk
      by_cases hkn : k < n
      · obtain ⟨⟨bl, off, ea, t0, t1, t2, t3, t4⟩, hS⟩ := SRow_below hup HI.out k hkn
        have hkI : (k : Int) < n := by omega
        have hS2 : SLies wr d (L k) := hS
        have ekk := HF.out k
        have ks := fun W h h' => KS.out k W hkn h h'
        have hby := hup.alloc hup.size (.cells #[.int .i64 (L k []).kind, .string (L k []).s, .slice (L k []).ea (L k []).el (L k []).ec, .slice (L k []).ba (L k []).bl (L k []).bc, .slice (L k []).la (L k []).ll (L k []).lc] 34)
        have hbz := hbel.alloc hbel.size (.cells #[.int .i64 (L k []).kind, .string (L k []).s, .slice (L k []).ea (L k []).el (L k []).ec, .slice (L k []).ba (L k []).bl (L k []).bc, .slice (L k []).la (L k []).ll (L k []).lc] 34)
        have hS3 := SLies_below ((Below.refl wr.heap.size wr).alloc (Nat.le_refl _) (.cells #[.int .i64 (L k []).kind, .string (L k []).s, .slice (L k []).ea (L k []).el (L k []).ec, .slice (L k []).ba (L k []).bl (L k []).bc, .slice (L k []).la (L k []).ll (L k []).lc] 34)) hS2
        generalize stmtSense len U u f d (L k) = r at ks ekk
        have k2 := fun W h h' => ks W h (SLies_below h' hS3)
        clear ks hS hS2 hS3
        generalize L k [] = y at k2 t0 t1 t2 t3 t4 hby hbz
        obtain ⟨q0, q1, q2⟩ := BX.out wr hbel
        have p0 := past q0
        have p1 := past q1
        have p2 := past q2
        obtain ⟨yk, ys, yea, yel, yec, yex, yba, ybl, ybc, yla, yll, ylc⟩ := y
        subst ea
        dsimp only at *
        have K2 : Hid _ := k2
        have BY : Hid _ := hby
        have BZ : Hid _ := hbz
        clear k2 KS HI HF hbel hup q0 q1 q2 hby hbz
        by_cases hr : r = 0
        · subst hr
          have EK : Hid (F k = 0) := ekk
          clear ekk
          go_wp2_with (go_at_call 65; refine (K2.out _ BY.out (by exact Below.refl _ _)).mono ?_; rintro e w3 ⟨rfl, hb3⟩; have HB3 : Hid _ := BZ.out.trans (hb3.mono BZ.out.size); clear hb3)
          go_roundw
          case rel => exact ⟨k + 1, by omega, by go_num, by rw [first_succ FK.out]; exact EK.out, HB3.out⟩
          case measure => simp [intOf]; omega
        · have hr2 : (r == 0) = false := beq_eq_false_iff_ne.2 hr
          have EK : Hid (first F n = r) := (first_stops hkn FK.out (by rw [ekk]; exact hr)).trans ekk
          clear ekk hr
          go_wp2_with (go_at_call 65; refine (K2.out _ BY.out (by exact Below.refl _ _)).mono ?_; rintro e w3 ⟨rfl, hb3⟩; have HB3 : Hid _ := BY.out.trans (hb3.mono BY.out.size); clear hb3)
          go_ret
          exact ⟨by rw [ES.out, EK.out]; rfl, HB3.out⟩
      · obtain rfl : k = n := by omega
        clear KS HI HF hbel hup
        go_wp2
        go_ret
        exact ⟨by rw [ES.out, FK.out]; rfl, UP.out⟩
end Go.Proofs.YtgjemlhnlpglbaaDoor.NStmts
