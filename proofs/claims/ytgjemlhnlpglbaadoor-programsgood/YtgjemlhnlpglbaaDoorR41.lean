/-
  WHAT tree.checkExpr GIVES, for every expression, at every depth: the call returns, and lays new memory alone.
  Conditions: the expression's Args lie there.
-/
import Derived.Test.YtgjemlhnlpglbaaDoorR40
namespace Go.Proofs.YtgjemlhnlpglbaaDoor.CheckExpr
open Go.RowKit Go.Proofs.YtgjemlhnlpglbaaDoor.Ident Trees Forms

set_option maxHeartbeats 4000000 in
theorem checkExpr : ∀ (d : Nat) (dep : Int) (T : ETree) (w : World), dep + d = 13 → 1 ≤ dep → ((T []).of.size ≤ maxLen ∧ (T []).s.size ≤ maxLen ∧ (T []).len ≤ maxLen) → ELies w d T →
    Calls Tryd.prog 82 #[.agg #[.int .i64 (T []).kind, .int .i64 (T []).n, .string (T []).of, .string (T []).s, .slice (T []).ao (T []).len (T []).cap], .int .i64 dep] w fun e w' => e = .returned (.int .i64 (exprFault d T)) ∧ Below w.heap.size w w' := by
  intro d
  induction d with
  | zero =>
    intro dep T w hd _ _ _
    obtain rfl : dep = 13 := by omega
    clear hd
    go_enter Tryd.func82, Tryd.ntmps82
    go_wp2
    go_ret
    exact ⟨rfl, below1 _ _⟩
  | succ d ih =>
    intro dep T w hd h1 hz hT
    have hd12 : dep ≤ 12 := by omega
    have k57 : ∀ (k : Nat) (W : World), ((T [k]).of.size ≤ maxLen ∧ (T [k]).s.size ≤ maxLen ∧ (T [k]).len ≤ maxLen) → ELies W d (sub T k) → Calls Tryd.prog 82 #[.agg #[.int .i64 (T [k]).kind, .int .i64 (T [k]).n, .string (T [k]).of, .string (T [k]).s, .slice (T [k]).ao (T [k]).len (T [k]).cap], .int .i64 (dep + 1)] W fun e w' => e = .returned (.int .i64 (exprFault d (sub T k))) ∧ Below W.heap.size W w' :=
      fun k W h h' => ih (dep + 1) (sub T k) W (by omega) (by omega) h h'
    have IH : Hid _ := k57
    clear k57 ih hd
    have EF : Hid (exprFault (d + 1) T = if nodeFault (T []) = 0 then first (fun i => exprFault d (sub T i)) (T []).len else nodeFault (T [])) := (rfl : exprFault (d + 1) T = _)
    have HT : Hid (ERow w (T []).ao (T []).len (sub T) d) := hT
    clear hT
    obtain ⟨f, ef⟩ : ∃ f : Nat → Int, f = fun i => exprFault d (sub T i) := ⟨_, rfl⟩
    have HF : Hid (∀ i, f i = exprFault d (sub T i)) := fun i => by rw [ef]
    rw [← ef] at EF
    clear ef
    obtain ⟨x, ex⟩ : ∃ x, x = T [] := ⟨_, rfl⟩
    rw [← ex] at EF HT hz ⊢
    have k58 : ∀ W, (1 ≤ x.kind ∧ x.kind ≤ 5) → x.len ≤ 4 → _ := fun W h h' => inForm x h hz.1 hz.2.1 h' W
    clear ex
    obtain ⟨b, eb⟩ : ∃ b, b = exprForm x := ⟨_, rfl⟩
    rw [← eb] at k58
    have NF : Hid (nodeFault x = if 1 ≤ x.kind ∧ x.kind ≤ 5 then if x.len ≤ 4 then if b = true then if exprRange x = true then 0 else 2 else 4 else 1 else 3) := by rw [eb]; exact (rfl : nodeFault x = _)
    have RG : Hid (exprRange x = if x.kind = 1 then decide (0 ≤ x.n ∧ x.n ≤ 65535) else if x.kind = 5 then decide (1 ≤ x.n ∧ x.n ≤ 10) else true) := (rfl : exprRange x = _)
    obtain ⟨nf, enf⟩ : ∃ nf, nf = nodeFault x := ⟨_, rfl⟩
    obtain ⟨rg, erg⟩ : ∃ rg, rg = exprRange x := ⟨_, rfl⟩
    rw [← enf] at EF NF
    rw [← erg] at NF RG
    clear eb enf erg
    obtain ⟨kind, n, of, s, ao, len, cap⟩ := x
    unfold ecells at k58
    dsimp only at EF HT k58 NF RG hz ⊢
    have hlM : len ≤ maxLen := hz.2.2
    unfold maxLen at hlM
    have hlI : (len : Int) ≤ 9223372036854775807 := by omega
    have hb0 := below1 w (.cells #[.int .i64 kind, .int .i64 n, .string of, .string s, .slice ao len cap] 29)
    clear hz hlM
    by_cases hk : 1 ≤ kind ∧ kind ≤ 5
    · by_cases hl : len ≤ 4
      · have hl4 : (len : Int) ≤ 4 := by omega
        have kf := fun W => k58 W hk hl
        have NF2 : Hid (nf = if b = true then if rg = true then 0 else 2 else 4) := by rw [NF.out, if_pos hk, if_pos hl]; exact (rfl : _ = _)
        obtain ⟨hk1, hk5⟩ := hk
        clear k58 NF hlI
        cases b
        · have E : Hid (exprFault (d + 1) T = 4) := by rw [EF.out, NF2.out]; exact (rfl : _ = _)
          clear EF NF2 IH
          go_enter Tryd.func82, Tryd.ntmps82
          go_wp2_with (go_at_call 91; refine (kf _).mono ?_; rintro e w1 ⟨rfl, hb1⟩; have hb2 := hb0.trans (hb1.mono hb0.size))
          go_ret
          exact ⟨by rw [E.out]; rfl, hb2⟩
        · have NF3 : Hid (nf = if rg = true then 0 else 2) := by rw [NF2.out, if_pos rfl]; exact (rfl : _ = _)
          have k21 : ∀ W, _ := fun W => is n W
          have k59 : ∀ W, _ := fun W => operation n W
          clear NF2
          rcases (show kind = 1 ∨ kind = 5 ∨ (2 ≤ kind ∧ kind ≤ 4) by omega) with rfl | rfl | ⟨hk2, hk4⟩
          · obtain ⟨c, ec⟩ : ∃ c, c = decide (0 ≤ n ∧ n ≤ 65535) := ⟨_, rfl⟩
            rw [← ec] at k21
            have RC : Hid (rg = c) := by rw [RG.out, if_pos rfl, ec]; exact (rfl : _ = _)
            clear ec RG
            cases c
            · have E : Hid (exprFault (d + 1) T = 2) := by rw [EF.out, NF3.out, RC.out]; exact (rfl : _ = _)
              clear EF NF3 IH
              go_enter Tryd.func82, Tryd.ntmps82
              go_wp2_with (first
                | (go_at_call 91; refine (kf _).mono ?_; rintro e w1 ⟨rfl, hb1⟩; obtain ⟨q0, q1, q2, q3, q4⟩ := box5 hb1; have hb2 := hb0.trans (hb1.mono hb0.size))
                | (go_at_call 66; refine (k21 _).mono ?_; rintro e w2 ⟨rfl, rfl⟩))
              go_ret
              exact ⟨by rw [E.out]; rfl, hb2⟩
            · have E : Hid (exprFault (d + 1) T = first f len) := by rw [EF.out, NF3.out, RC.out]; exact (rfl : _ = _)
              clear EF NF3 RC
              go_enter Tryd.func82, Tryd.ntmps82
              go_wp2_with (first
                | (go_at_call 91; refine (kf _).mono ?_; rintro e w1 ⟨rfl, hb1⟩; obtain ⟨q0, q1, q2, q3, q4⟩ := box5 hb1; have hb2 := hb0.trans (hb1.mono hb0.size))
                | (go_at_call 66; refine (k21 _).mono ?_; rintro e w2 ⟨rfl, rfl⟩))
              clear kf k21 k59
              go_loopw [51] (fun i wr => ∃ k : Nat, k ≤ len ∧ i = .int .i64 k ∧ first f k = 0 ∧ Below w.heap.size w wr) (fun i _ => len - (intOf i).toNat)
              case atStart => exact ⟨0, Nat.zero_le _, rfl, rfl, hb2⟩
              case round =>
                obtain ⟨k, hk, rfl, hf, hbel⟩ := hrel
                have FK : Hid (first f k = 0) := hf
                clear hf
                by_cases hkl : k < len
                · obtain ⟨⟨bl, off, ea, t0, t1, t2, t3, t4⟩, hz, hE⟩ := ERow_below hbel HT.out k hkl
                  have hE2 := ELies_below (below1 wr (.cells #[.int .i64 (sub T k []).kind, .int .i64 (sub T k []).n, .string (sub T k []).of, .string (sub T k []).s, .slice (sub T k []).ao (sub T k []).len (sub T k []).cap] 29)) hE
                  have kk := fun W h => IH.out k W hz h
                  obtain ⟨r, er⟩ : ∃ r, r = exprFault d (sub T k) := ⟨_, rfl⟩
                  have ER : Hid (r = f k) := er.trans (HF.out k).symm
                  rw [← er] at kk
                  change ∀ W : World, ELies W d (sub T k) → Calls Tryd.prog 82 #[.agg #[.int .i64 (sub T k []).kind, .int .i64 (sub T k []).n, .string (sub T k []).of, .string (sub T k []).s, .slice (sub T k []).ao (sub T k []).len (sub T k []).cap], .int .i64 (dep + 1)] W _ at kk
                  obtain ⟨y, ey⟩ : ∃ y, y = sub T k [] := ⟨_, rfl⟩
                  rw [← ey] at kk t0 t1 t2 t3 t4 hE2
                  have HE : Hid _ := hE2
                  have KK : Hid _ := kk
                  have HB : Hid _ := hbel.alloc hbel.size (.cells #[.int .i64 y.kind, .int .i64 y.n, .string y.of, .string y.s, .slice y.ao y.len y.cap] 29)
                  clear er ey hE hE2 kk hz IH HT HF hbel hb2 hb0 hb1 q0 q1 q2 q3 q4
                  obtain ⟨yk, yn, yof, ys, yao, ylen, ycap⟩ := y
                  subst ea
                  dsimp only at t0 t1 t2 t3 t4 HE KK HB
                  by_cases hr : r = 0
                  · subst hr
                    go_wp2_with (go_at_call 82; refine (KK.out _ HE.out).mono ?_; rintro e w3 ⟨rfl, hb3⟩; have hb4 := HB.out.trans (hb3.mono HB.out.size))
                    go_roundw
                    case rel => exact ⟨k + 1, by omega, by go_num, by rw [first_succ FK.out]; exact ER.out.symm, hb4⟩
                    case measure => simp [intOf]; omega
                  · have hr2 : (r == 0) = false := beq_eq_false_iff_ne.2 hr
                    have e1 : Hid (first f len = r) := (first_stops hkl FK.out (by rw [← ER.out]; exact hr)).trans ER.out.symm
                    clear hr
                    go_wp2_with (go_at_call 82; refine (KK.out _ HE.out).mono ?_; rintro e w3 ⟨rfl, hb3⟩; have hb4 := HB.out.trans (hb3.mono HB.out.size))
                    go_ret
                    exact ⟨by rw [E.out, e1.out]; rfl, hb4⟩
                · obtain rfl : k = len := by omega
                  clear IH HT
                  go_wp2
                  go_ret
                  exact ⟨by rw [E.out, FK.out]; rfl, hbel⟩
          · obtain ⟨c, ec⟩ : ∃ c, c = decide (1 ≤ n ∧ n ≤ 10) := ⟨_, rfl⟩
            rw [← ec] at k59
            have RC : Hid (rg = c) := by rw [RG.out, if_neg (by decide), if_pos rfl, ec]; exact (rfl : _ = _)
            clear ec RG
            cases c
            · have E : Hid (exprFault (d + 1) T = 2) := by rw [EF.out, NF3.out, RC.out]; exact (rfl : _ = _)
              clear EF NF3 IH
              go_enter Tryd.func82, Tryd.ntmps82
              go_wp2_with (first
                | (go_at_call 91; refine (kf _).mono ?_; rintro e w1 ⟨rfl, hb1⟩; obtain ⟨q0, q1, q2, q3, q4⟩ := box5 hb1; have hb2 := hb0.trans (hb1.mono hb0.size))
                | (go_at_call 92; refine (k59 _).mono ?_; rintro e w2 ⟨rfl, rfl⟩))
              go_ret
              exact ⟨by rw [E.out]; rfl, hb2⟩
            · have E : Hid (exprFault (d + 1) T = first f len) := by rw [EF.out, NF3.out, RC.out]; exact (rfl : _ = _)
              clear EF NF3 RC
              go_enter Tryd.func82, Tryd.ntmps82
              go_wp2_with (first
                | (go_at_call 91; refine (kf _).mono ?_; rintro e w1 ⟨rfl, hb1⟩; obtain ⟨q0, q1, q2, q3, q4⟩ := box5 hb1; have hb2 := hb0.trans (hb1.mono hb0.size))
                | (go_at_call 92; refine (k59 _).mono ?_; rintro e w2 ⟨rfl, rfl⟩))
              clear kf k21 k59
              go_loopw [51] (fun i wr => ∃ k : Nat, k ≤ len ∧ i = .int .i64 k ∧ first f k = 0 ∧ Below w.heap.size w wr) (fun i _ => len - (intOf i).toNat)
              case atStart => exact ⟨0, Nat.zero_le _, rfl, rfl, hb2⟩
              case round =>
                obtain ⟨k, hk, rfl, hf, hbel⟩ := hrel
                have FK : Hid (first f k = 0) := hf
                clear hf
                by_cases hkl : k < len
                · obtain ⟨⟨bl, off, ea, t0, t1, t2, t3, t4⟩, hz, hE⟩ := ERow_below hbel HT.out k hkl
                  have hE2 := ELies_below (below1 wr (.cells #[.int .i64 (sub T k []).kind, .int .i64 (sub T k []).n, .string (sub T k []).of, .string (sub T k []).s, .slice (sub T k []).ao (sub T k []).len (sub T k []).cap] 29)) hE
                  have kk := fun W h => IH.out k W hz h
                  obtain ⟨r, er⟩ : ∃ r, r = exprFault d (sub T k) := ⟨_, rfl⟩
                  have ER : Hid (r = f k) := er.trans (HF.out k).symm
                  rw [← er] at kk
                  change ∀ W : World, ELies W d (sub T k) → Calls Tryd.prog 82 #[.agg #[.int .i64 (sub T k []).kind, .int .i64 (sub T k []).n, .string (sub T k []).of, .string (sub T k []).s, .slice (sub T k []).ao (sub T k []).len (sub T k []).cap], .int .i64 (dep + 1)] W _ at kk
                  obtain ⟨y, ey⟩ : ∃ y, y = sub T k [] := ⟨_, rfl⟩
                  rw [← ey] at kk t0 t1 t2 t3 t4 hE2
                  have HE : Hid _ := hE2
                  have KK : Hid _ := kk
                  have HB : Hid _ := hbel.alloc hbel.size (.cells #[.int .i64 y.kind, .int .i64 y.n, .string y.of, .string y.s, .slice y.ao y.len y.cap] 29)
                  clear er ey hE hE2 kk hz IH HT HF hbel hb2 hb0 hb1 q0 q1 q2 q3 q4
                  obtain ⟨yk, yn, yof, ys, yao, ylen, ycap⟩ := y
                  subst ea
                  dsimp only at t0 t1 t2 t3 t4 HE KK HB
                  by_cases hr : r = 0
                  · subst hr
                    go_wp2_with (go_at_call 82; refine (KK.out _ HE.out).mono ?_; rintro e w3 ⟨rfl, hb3⟩; have hb4 := HB.out.trans (hb3.mono HB.out.size))
                    go_roundw
                    case rel => exact ⟨k + 1, by omega, by go_num, by rw [first_succ FK.out]; exact ER.out.symm, hb4⟩
                    case measure => simp [intOf]; omega
                  · have hr2 : (r == 0) = false := beq_eq_false_iff_ne.2 hr
                    have e1 : Hid (first f len = r) := (first_stops hkl FK.out (by rw [← ER.out]; exact hr)).trans ER.out.symm
                    clear hr
                    go_wp2_with (go_at_call 82; refine (KK.out _ HE.out).mono ?_; rintro e w3 ⟨rfl, hb3⟩; have hb4 := HB.out.trans (hb3.mono HB.out.size))
                    go_ret
                    exact ⟨by rw [E.out, e1.out]; rfl, hb4⟩
                · obtain rfl : k = len := by omega
                  clear IH HT
                  go_wp2
                  go_ret
                  exact ⟨by rw [E.out, FK.out]; rfl, hbel⟩
          · have n1 : (kind == 1) = false := beq_eq_false_iff_ne.2 (by omega)
            have n5 : (kind == 5) = false := beq_eq_false_iff_ne.2 (by omega)
            have RC : Hid (rg = true) := by rw [RG.out, if_neg (by omega), if_neg (by omega)]; exact (rfl : _ = _)
            have E : Hid (exprFault (d + 1) T = first f len) := by rw [EF.out, NF3.out, RC.out]; exact (rfl : _ = _)
            clear EF NF3 RC RG
            go_enter Tryd.func82, Tryd.ntmps82
            go_wp2_with (go_at_call 91; refine (kf _).mono ?_; rintro e w1 ⟨rfl, hb1⟩; obtain ⟨q0, q1, q2, q3, q4⟩ := box5 hb1; have hb2 := hb0.trans (hb1.mono hb0.size))
            clear kf k21 k59
            go_loopw [51] (fun i wr => ∃ k : Nat, k ≤ len ∧ i = .int .i64 k ∧ first f k = 0 ∧ Below w.heap.size w wr) (fun i _ => len - (intOf i).toNat)
            case atStart => exact ⟨0, Nat.zero_le _, rfl, rfl, hb2⟩
            case round =>
              obtain ⟨k, hk, rfl, hf, hbel⟩ := hrel
              have FK : Hid (first f k = 0) := hf
              clear hf
              by_cases hkl : k < len
              · obtain ⟨⟨bl, off, ea, t0, t1, t2, t3, t4⟩, hz, hE⟩ := ERow_below hbel HT.out k hkl
                have hE2 := ELies_below (below1 wr (.cells #[.int .i64 (sub T k []).kind, .int .i64 (sub T k []).n, .string (sub T k []).of, .string (sub T k []).s, .slice (sub T k []).ao (sub T k []).len (sub T k []).cap] 29)) hE
                have kk := fun W h => IH.out k W hz h
                obtain ⟨r, er⟩ : ∃ r, r = exprFault d (sub T k) := ⟨_, rfl⟩
                have ER : Hid (r = f k) := er.trans (HF.out k).symm
                rw [← er] at kk
                change ∀ W : World, ELies W d (sub T k) → Calls Tryd.prog 82 #[.agg #[.int .i64 (sub T k []).kind, .int .i64 (sub T k []).n, .string (sub T k []).of, .string (sub T k []).s, .slice (sub T k []).ao (sub T k []).len (sub T k []).cap], .int .i64 (dep + 1)] W _ at kk
                obtain ⟨y, ey⟩ : ∃ y, y = sub T k [] := ⟨_, rfl⟩
                rw [← ey] at kk t0 t1 t2 t3 t4 hE2
                have HE : Hid _ := hE2
                have KK : Hid _ := kk
                have HB : Hid _ := hbel.alloc hbel.size (.cells #[.int .i64 y.kind, .int .i64 y.n, .string y.of, .string y.s, .slice y.ao y.len y.cap] 29)
                clear er ey hE hE2 kk hz IH HT HF hbel hb2 hb0 hb1 q0 q1 q2 q3 q4
                obtain ⟨yk, yn, yof, ys, yao, ylen, ycap⟩ := y
                subst ea
                dsimp only at t0 t1 t2 t3 t4 HE KK HB
                by_cases hr : r = 0
                · subst hr
                  go_wp2_with (go_at_call 82; refine (KK.out _ HE.out).mono ?_; rintro e w3 ⟨rfl, hb3⟩; have hb4 := HB.out.trans (hb3.mono HB.out.size))
                  go_roundw
                  case rel => exact ⟨k + 1, by omega, by go_num, by rw [first_succ FK.out]; exact ER.out.symm, hb4⟩
                  case measure => simp [intOf]; omega
                · have hr2 : (r == 0) = false := beq_eq_false_iff_ne.2 hr
                  have e1 : Hid (first f len = r) := (first_stops hkl FK.out (by rw [← ER.out]; exact hr)).trans ER.out.symm
                  clear hr
                  go_wp2_with (go_at_call 82; refine (KK.out _ HE.out).mono ?_; rintro e w3 ⟨rfl, hb3⟩; have hb4 := HB.out.trans (hb3.mono HB.out.size))
                  go_ret
                  exact ⟨by rw [E.out, e1.out]; rfl, hb4⟩
              · obtain rfl : k = len := by omega
                clear IH HT
                go_wp2
                go_ret
                exact ⟨by rw [E.out, FK.out]; rfl, hbel⟩
      · have E : Hid (exprFault (d + 1) T = 1) := by rw [EF.out, NF.out, if_pos hk, if_neg hl]; exact (rfl : _ = _)
        have hl4 : (4 : Int) < len := by omega
        obtain ⟨hk1, hk5⟩ := hk
        clear EF NF IH hl k58
        go_enter Tryd.func82, Tryd.ntmps82
        go_wp2
        go_ret
        exact ⟨by rw [E.out]; rfl, hb0⟩
    · have E : Hid (exprFault (d + 1) T = 3) := by rw [EF.out, NF.out, if_neg hk]; exact (rfl : _ = _)
      clear EF NF IH k58
      rcases (show kind < 1 ∨ (1 ≤ kind ∧ 5 < kind) by omega) with c | ⟨c, c'⟩
      all_goals
        clear hk
        go_enter Tryd.func82, Tryd.ntmps82
        go_wp2
        go_ret
        exact ⟨by rw [E.out]; rfl, hb0⟩
end Go.Proofs.YtgjemlhnlpglbaaDoor.CheckExpr
