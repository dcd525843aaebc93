/-
  WHAT tree.checkStmt AND tree.checkStmts GIVE, for all statements, at every depth: each call returns, and lays new memory alone.
  Conditions: what the statements name lies there.
-/
import Derived.Test.YtgjemlhnlpglbaaDoorR41
import Derived.Test.YtgjemlhnlpglbaaDoorR42
import Derived.Deep.RegionWith
namespace Go.Proofs.YtgjemlhnlpglbaaDoor.CheckStmts
open Go.RowKit Go.Proofs.YtgjemlhnlpglbaaDoor.Ident Trees Forms StmtForm

set_option maxHeartbeats 4000000 in
theorem checkStmt (d : Nat) (dep : Int) (T : STree) (w : World) (hd : dep + d = 12) (h1 : 1 ≤ dep)
    (h44 : ∀ (W : World) (ao : Option Addr) (len cap : Nat) (L : Nat → STree), len ≤ maxLen → SRow W d ao len L → Calls Tryd.prog 55 #[.slice ao len cap, .int .i64 (dep + 1)] W fun e w' => e = .returned (.int .i64 (stmtsFault d len L)) ∧ Below W.heap.size W w')
    (hT : SLies w d T) :
    Calls Tryd.prog 69 #[.agg #[.int .i64 (T []).kind, .string (T []).s, .slice (T []).ea (T []).el (T []).ec, .slice (T []).ba (T []).bl (T []).bc, .slice (T []).la (T []).ll (T []).lc], .int .i64 dep] w fun e w' => e = .returned (.int .i64 (stmtFault d T)) ∧ Below w.heap.size w w' := by
  obtain ⟨⟨hs, hel, hbl, hll⟩, hE, hB, hL⟩ := hT
  have hd12 : dep ≤ 12 := by omega
  have kB : ∀ W, Below w.heap.size w W → _ := fun W hb => h44 W (T []).ba (T []).bl (T []).bc (inBody T) hbl (SRow_below hb hB)
  have kL : ∀ W, Below w.heap.size w W → _ := fun W hb => h44 W (T []).la (T []).ll (T []).lc (inElse T) hll (SRow_below hb hL)
  have kE : ∀ (j : Nat) (W : World), j < (T []).el → Below w.heap.size w W → Calls Tryd.prog 82 #[.agg #[.int .i64 ((T []).ex j []).kind, .int .i64 ((T []).ex j []).n, .string ((T []).ex j []).of, .string ((T []).ex j []).s, .slice ((T []).ex j []).ao ((T []).ex j []).len ((T []).ex j []).cap], .int .i64 1] W fun e w' => e = .returned (.int .i64 (exprFault 12 ((T []).ex j))) ∧ Below W.heap.size W w' :=
    fun j W hj hb => CheckExpr.checkExpr 12 1 ((T []).ex j) W (by decide) (by decide) (hE j hj).2.1 (ELies_below hb (hE j hj).2.2)
  have k56 : ∀ W, 1 ≤ (T []).kind ∧ (T []).kind ≤ 6 → _ := fun W hk => stmtInForm (T []) hk hs hel hbl hll W
  have SF : Hid (stmtFault d T = if headFault (T []) = 0 then if stmtsFault d (T []).bl (inBody T) = 0 then stmtsFault d (T []).ll (inElse T) else stmtsFault d (T []).bl (inBody T) else headFault (T [])) := (rfl : stmtFault d T = _)
  have HF : Hid (headFault (T []) = if 1 ≤ (T []).kind ∧ (T []).kind ≤ 6 then if stmtForm (T []) = true then first (fun j => exprFault 12 ((T []).ex j)) (T []).el else 4 else 3) := (rfl : headFault (T []) = _)
  clear h44 hB hL hd
  obtain ⟨B, eB⟩ : ∃ B, B = stmtsFault d (T []).bl (inBody T) := ⟨_, rfl⟩
  obtain ⟨L, eL⟩ : ∃ L, L = stmtsFault d (T []).ll (inElse T) := ⟨_, rfl⟩
  obtain ⟨h, eh⟩ : ∃ h, h = headFault (T []) := ⟨_, rfl⟩
  obtain ⟨fm, ef⟩ : ∃ fm, fm = stmtForm (T []) := ⟨_, rfl⟩
  obtain ⟨sf, es⟩ : ∃ sf, sf = stmtFault d T := ⟨_, rfl⟩
  rw [← eB, ← eL, ← eh, ← es] at SF
  rw [← eh, ← ef] at HF
  rw [← eB] at kB
  rw [← eL] at kL
  rw [← ef] at k56
  rw [← es]
  clear eB eL eh ef es
  generalize T [] = x at hs hel hbl hll hE kE kB kL k56 HF ⊢
  clear T
  obtain ⟨kind, s, ea, el, ec, ex, ba, bl, bc, la, ll, lc⟩ := x
  dsimp only at *
  obtain ⟨g, eg⟩ : ∃ g : Nat → Int, g = fun j => exprFault 12 (ex j) := ⟨_, rfl⟩
  have GJ : Hid (∀ j, g j = exprFault 12 (ex j)) := fun j => by rw [eg]
  rw [← eg] at HF
  clear eg
  unfold maxLen at hel hbl hll
  have h2 : (el : Int) ≤ 9223372036854775807 := by omega
  have h3 : (bl : Int) ≤ 9223372036854775807 := by omega
  have h4 : (ll : Int) ≤ 9223372036854775807 := by omega
  obtain ⟨w0, ew0⟩ : ∃ w0, w0 = w.alloc (.cells #[.int .i64 kind, .string s, .slice ea el ec, .slice ba bl bc, .slice la ll lc] 34) := ⟨_, rfl⟩
  have hb0 : Below w.heap.size w w0 := by rw [ew0]; exact below1 w _
  have bx : ∀ W, Below w0.heap.size w0 W → W.cell? ⟨w.heap.size, 0, none⟩ = some (.int .i64 kind) ∧ W.cell? ⟨w.heap.size, 1, none⟩ = some (.string s) ∧ W.cell? ⟨w.heap.size, 2, none⟩ = some (.slice ea el ec) ∧ W.cell? ⟨w.heap.size, 3, none⟩ = some (.slice ba bl bc) ∧ W.cell? ⟨w.heap.size, 4, none⟩ = some (.slice la ll lc) := by
    rw [ew0]
    exact fun W hb => box5 hb
  have up : ∀ W, Below w0.heap.size w0 W → Below w.heap.size w W := fun W hb => hb0.trans (hb.mono hb0.size)
  have BX : Hid _ := bx
  have UP : Hid _ := up
  have KB : Hid _ := kB
  have KL : Hid _ := kL
  have KE : Hid _ := kE
  have HE : Hid _ := hE
  have EW : Hid (w.alloc (.cells #[.int .i64 kind, .string s, .slice ea el ec, .slice ba bl bc, .slice la ll lc] 34) = w0) := ew0.symm
  have B0 : Hid _ := hb0
  clear ew0 hel hbl hll bx up kB kL kE hE hs hb0
  by_cases hk : 1 ≤ kind ∧ kind ≤ 6
  · have kf := fun W => k56 W hk
    have HF2 : Hid (h = if fm = true then first g el else 4) := by rw [HF.out, if_pos hk]; exact (rfl : _ = _)
    obtain ⟨hk1, hk6⟩ := hk
    clear k56 HF
    cases fm
    · have E : Hid (sf = 4) := by rw [SF.out, HF2.out]; exact (rfl : _ = _)
      clear SF HF2 KB KL KE
      go_enter Tryd.func69, Tryd.ntmps69
      go_wp2_with (go_at_call 81; rw [EW.out]; refine (kf _).mono ?_; rintro e w1 ⟨rfl, hb1⟩; have hb2 := UP.out _ hb1)
      go_ret
      exact ⟨by rw [E.out]; rfl, hb2⟩
    · have HF3 : Hid (h = first g el) := by rw [HF2.out]; exact (rfl : _ = _)
      clear HF2
      go_enter Tryd.func69, Tryd.ntmps69
      go_wp2_with (go_at_call 81; rw [EW.out]; refine (kf _).mono ?_; rintro e w1 ⟨rfl, hb1⟩; obtain ⟨q0, q1, q2, q3, q4⟩ := BX.out _ hb1)
      clear kf
      go_loopw [23] (fun i wr => ∃ k : Nat, k ≤ el ∧ i = .int .i64 k ∧ first g k = 0 ∧ Below w0.heap.size w0 wr) (fun i _ => el - (intOf i).toNat)
      case atStart => exact ⟨0, Nat.zero_le _, rfl, rfl, hb1⟩
      case round =>
        obtain ⟨k, hk, rfl, hf, hbel⟩ := hrel
        have FK : Hid (first g k = 0) := hf
        clear hf hb1 q0 q1 q2 q3 q4
        by_cases hkl : k < el
        · obtain ⟨⟨b2, off, ea', t0, t1, t2, t3, t4⟩, _, _⟩ := ERow_below (UP.out _ hbel) HE.out k hkl
          have kk := fun W h => KE.out k W hkl h
          obtain ⟨r, er⟩ : ∃ r, r = exprFault 12 (ex k) := ⟨_, rfl⟩
          have ER : Hid (r = g k) := er.trans (GJ.out k).symm
          rw [← er] at kk
          obtain ⟨y, ey⟩ : ∃ y, y = ex k [] := ⟨_, rfl⟩
          rw [← ey] at kk t0 t1 t2 t3 t4
          have KK : Hid _ := kk
          have HB : Hid _ := hbel.alloc hbel.size (.cells #[.int .i64 y.kind, .int .i64 y.n, .string y.of, .string y.s, .slice y.ao y.len y.cap] 29)
          clear er ey kk HE GJ KE KB KL hbel
          obtain ⟨yk, yn, yof, ys, yao, ylen, ycap⟩ := y
          subst ea'
          dsimp only at t0 t1 t2 t3 t4 KK HB
          by_cases hr : r = 0
          · subst hr
            go_wp2_with (go_at_call 82; refine (KK.out _ (UP.out _ HB.out)).mono ?_; rintro e w3 ⟨rfl, hb3⟩; have hb4 := HB.out.trans (hb3.mono HB.out.size))
            go_roundw
            case rel => exact ⟨k + 1, by omega, by go_num, by rw [first_succ FK.out]; exact ER.out.symm, hb4⟩
            case measure => simp [intOf]; omega
          · have hr2 : (r == 0) = false := beq_eq_false_iff_ne.2 hr
            have E : Hid (sf = r) := by
              rw [SF.out, HF3.out, first_stops hkl FK.out (by rw [← ER.out]; exact hr), ← ER.out, if_neg hr]
              exact (rfl : _ = _)
            clear hr
            go_wp2_with (go_at_call 82; refine (KK.out _ (UP.out _ HB.out)).mono ?_; rintro e w3 ⟨rfl, hb3⟩; have hb4 := HB.out.trans (hb3.mono HB.out.size))
            go_ret
            exact ⟨by rw [E.out]; rfl, UP.out _ hb4⟩
        · obtain rfl : k = el := by omega
          have SF2 : Hid (sf = if B = 0 then L else B) := by rw [SF.out, HF3.out, FK.out, if_pos rfl]; exact (rfl : _ = _)
          obtain ⟨q0, q1, q2, q3, q4⟩ := BX.out _ hbel
          clear SF HF3 HE KE GJ
          by_cases hB : B = 0
          · have E : Hid (sf = L) := by rw [SF2.out, if_pos hB]; exact (rfl : _ = _)
            subst hB
            clear SF2
            go_wp2_with (first
              | (go_at_call_of 55 (Value.slice ba bl bc); refine (KB.out _ (UP.out _ hbel)).mono ?_; rintro e w3 ⟨rfl, hb3⟩; have hb4 := hbel.trans (hb3.mono hbel.size); clear q0 q1 q2 q3 q4; obtain ⟨q0, q1, q2, q3, q4⟩ := BX.out _ hb4)
              | (go_at_call_of 55 (Value.slice la ll lc); refine (KL.out _ (UP.out _ hb4)).mono ?_; rintro e w4 ⟨rfl, hb5⟩; have hb6 := hb4.trans (hb5.mono hb4.size)))
            go_ret
            exact ⟨by rw [E.out]; rfl, UP.out _ hb6⟩
          · have E : Hid (sf = B) := by rw [SF2.out, if_neg hB]; exact (rfl : _ = _)
            have hB2 : (B == 0) = false := beq_eq_false_iff_ne.2 hB
            clear SF2 hB KL
            go_wp2_with (go_at_call_of 55 (Value.slice ba bl bc); refine (KB.out _ (UP.out _ hbel)).mono ?_; rintro e w3 ⟨rfl, hb3⟩; have hb4 := hbel.trans (hb3.mono hbel.size))
            go_ret
            exact ⟨by rw [E.out]; rfl, UP.out _ hb4⟩
  · have E : Hid (sf = 3) := by rw [SF.out, HF.out, if_neg hk]; exact (rfl : _ = _)
    clear SF HF KB KL KE k56
    rcases (show kind < 1 ∨ (1 ≤ kind ∧ 6 < kind) by omega) with c | ⟨c, c'⟩
    all_goals
      clear hk
      go_enter Tryd.func69, Tryd.ntmps69
      go_wp2
      rw [EW.out]
      go_ret
      exact ⟨by rw [E.out]; rfl, B0.out⟩

set_option maxHeartbeats 4000000 in
theorem checkStmts : ∀ (d : Nat) (dep : Int) (w : World) (ao : Option Addr) (len cap : Nat) (L : Nat → STree), dep + d = 13 → 1 ≤ dep → len ≤ maxLen → SRow w d ao len L →
    Calls Tryd.prog 55 #[.slice ao len cap, .int .i64 dep] w fun e w' => e = .returned (.int .i64 (stmtsFault d len L)) ∧ Below w.heap.size w w' := by
  intro d
  induction d with
  | zero =>
    intro dep w ao len cap L hd _ _ _
    obtain rfl : dep = 13 := by omega
    clear hd
    go_enter Tryd.func55, Tryd.ntmps55
    go_wp2
    go_ret
    exact ⟨rfl, Below.refl _ _⟩
  | succ d ih =>
    intro dep w ao len cap L hd h1 hl hin
    have hd12 : dep ≤ 12 := by omega
    have k52 : ∀ (k : Nat) (W : World), SLies W d (L k) → _ := fun k W h => checkStmt d dep (L k) W (by omega) h1 (fun W ao len cap L h h' => ih (dep + 1) W ao len cap L (by omega) (by omega) h h') h
    have IH : Hid _ := k52
    obtain ⟨f, ef⟩ : ∃ f : Nat → Int, f = fun i => stmtFault d (L i) := ⟨_, rfl⟩
    have HF : Hid (∀ i, f i = stmtFault d (L i)) := fun i => by rw [ef]
    have EF : Hid (stmtsFault (d + 1) len L = first f len) := by rw [ef]; exact stmtsFault_succ d len L
    have HI : Hid (SRow w (d + 1) ao len L) := hin
    unfold maxLen at hl
    have hlI : (len : Int) ≤ 9223372036854775807 := by omega
    clear k52 ih hd ef hin hl
    go_enter Tryd.func55, Tryd.ntmps55
    go_wp2
    go_loopw [12] (fun i wr => ∃ k : Nat, k ≤ len ∧ i = .int .i64 k ∧ first f k = 0 ∧ Below w.heap.size w wr) (fun i _ => len - (intOf i).toNat)
    case atStart => exact ⟨0, Nat.zero_le _, rfl, rfl, Below.refl _ _⟩
    case round =>
      obtain ⟨k, hk, rfl, hf, hbel⟩ := hrel
      have FK : Hid (first f k = 0) := hf
      clear hf
      by_cases hkl : k < len
      · obtain ⟨⟨bl, off, ea, t0, t1, t2, t3, t4⟩, hS⟩ := SRow_below hbel HI.out k hkl
        have kk := fun W h => IH.out k W h
        obtain ⟨r, er⟩ : ∃ r, r = stmtFault d (L k) := ⟨_, rfl⟩
        have ER : Hid (r = f k) := er.trans (HF.out k).symm
        rw [← er] at kk
        have hS2 : SLies wr d (L k) := hS
        have hS3 := SLies_below (below1 wr (.cells #[.int .i64 (L k []).kind, .string (L k []).s, .slice (L k []).ea (L k []).el (L k []).ec, .slice (L k []).ba (L k []).bl (L k []).bc, .slice (L k []).la (L k []).ll (L k []).lc] 34)) hS2
        obtain ⟨y, ey⟩ : ∃ y, y = L k [] := ⟨_, rfl⟩
        rw [← ey] at kk t0 t1 t2 t3 t4 hS3
        have KK : Hid _ := kk
        have HS : Hid _ := hS3
        have HB : Hid _ := hbel.alloc hbel.size (.cells #[.int .i64 y.kind, .string y.s, .slice y.ea y.el y.ec, .slice y.ba y.bl y.bc, .slice y.la y.ll y.lc] 34)
        clear er ey kk HI IH HF hbel hS hS2 hS3
        obtain ⟨yk, ys, yea, yel, yec, yex, yba, ybl, ybc, yla, yll, ylc⟩ := y
        subst ea
        dsimp only at t0 t1 t2 t3 t4 KK HB HS
        by_cases hr : r = 0
        · subst hr
          go_wp2_with (go_at_call 69; refine (KK.out _ HS.out).mono ?_; rintro e w3 ⟨rfl, hb3⟩; have hb4 := HB.out.trans (hb3.mono HB.out.size))
          go_roundw
          case rel => exact ⟨k + 1, by omega, by go_num, by rw [first_succ FK.out]; exact ER.out.symm, hb4⟩
          case measure => simp [intOf]; omega
        · have hr2 : (r == 0) = false := beq_eq_false_iff_ne.2 hr
          have E : Hid (first f len = r) := (first_stops hkl FK.out (by rw [← ER.out]; exact hr)).trans ER.out.symm
          clear hr
          go_wp2_with (go_at_call 69; refine (KK.out _ HS.out).mono ?_; rintro e w3 ⟨rfl, hb3⟩; have hb4 := HB.out.trans (hb3.mono HB.out.size))
          go_ret
          exact ⟨by rw [EF.out, E.out]; rfl, hb4⟩
      · obtain rfl : k = len := by omega
        clear IH HI HF
        go_wp2
        go_ret
        exact ⟨by rw [EF.out, FK.out]; rfl, hbel⟩
end Go.Proofs.YtgjemlhnlpglbaaDoor.CheckStmts
