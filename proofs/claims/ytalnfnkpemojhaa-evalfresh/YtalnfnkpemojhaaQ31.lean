/-
  WHAT THE DOCUMENT's stmtsSense GIVES (P7.2): of statements that may be.
  Conditions: the units, the function and the statements lie there.
-/
import Derived.Test.YtalnfnkpemojhaaQ30
import Derived.Test.YtalnfnkpemojhaaQ6
import Derived.Deep.LoopGhost
import Derived.Deep.CutBlock
import Derived.Deep.CutRange
namespace Go.Proofs.Ytalnfnkpemojhaa.NRefStmts
open Go.RowKit NPlace NPlain NUnits NLists NFind Go.Proofs.Ytalnfnkpemojhaa.Ident Trees Forms NSense NScope NAsk

theorem four {w W : World} {t t' : TypeId} {u0 u1 u2 u3 v0 v1 v2 v3 : Value} (hb : Below ((w.alloc (.cells #[u0, u1, u2, u3] t)).alloc (.cells #[v0, v1, v2, v3] t')).heap.size ((w.alloc (.cells #[u0, u1, u2, u3] t)).alloc (.cells #[v0, v1, v2, v3] t')) W) :
    (W.cell? ⟨w.heap.size, 0, none⟩ = some u0 ∧ W.cell? ⟨w.heap.size, 1, none⟩ = some u1 ∧ W.cell? ⟨w.heap.size, 2, none⟩ = some u2 ∧ W.cell? ⟨w.heap.size, 3, none⟩ = some u3) ∧ (W.cell? ⟨w.heap.size + 1, 0, none⟩ = some v0 ∧ W.cell? ⟨w.heap.size + 1, 1, none⟩ = some v1 ∧ W.cell? ⟨w.heap.size + 1, 2, none⟩ = some v2 ∧ W.cell? ⟨w.heap.size + 1, 3, none⟩ = some v3) := by
  have h0 : ∀ i : Nat, (⟨w.heap.size, i, none⟩ : Addr).block < ((w.alloc (.cells #[u0, u1, u2, u3] t)).alloc (.cells #[v0, v1, v2, v3] t')).heap.size := fun i => by simp; omega
  have h1 : ∀ i : Nat, (⟨w.heap.size + 1, i, none⟩ : Addr).block < ((w.alloc (.cells #[u0, u1, u2, u3] t)).alloc (.cells #[v0, v1, v2, v3] t')).heap.size := fun i => by simp
  refine ⟨⟨(hb.cell (h0 0)).trans ?_, (hb.cell (h0 1)).trans ?_, (hb.cell (h0 2)).trans ?_, (hb.cell (h0 3)).trans ?_⟩, ⟨(hb.cell (h1 0)).trans ?_, (hb.cell (h1 1)).trans ?_, (hb.cell (h1 2)).trans ?_, (hb.cell (h1 3)).trans ?_⟩⟩
  iterate 4 exact past (by simp) _
  all_goals simp

set_option maxRecDepth 100000 in
set_option maxHeartbeats 16000000 in
theorem stmts (len pcap : Nat) (pa : Option Addr) (U : Nat → UnitD) (u : UnitD) (f : FuncD) (hl : len ≤ maxLen) : ∀ (d : Nat) (w : World) (ao : Option Addr) (n cap : Nat) (L : Nat → STree), URow w pa len U → UnitLies w u → FuncLies w f → n ≤ maxLen → SRow w d ao n L → Trees.stmtsFault d n L = 0 →
    Calls Try.prog 23 #[.slice pa len pcap, .agg #[.string u.name, .slice u.va u.vl u.vc, .slice u.aa u.al u.ac, .slice u.fa u.fl u.fc], .agg #[.string f.name, .bool f.op, .slice f.pa f.pl f.pc, .slice f.ba f.bl f.bc], .slice ao n cap] w fun e w' => e = .returned (.int .i64 (stmtsSense len U u f d n L)) ∧ Below w.heap.size w w' := by
  intro d
  induction d with
  | zero =>
    intro w ao n cap L _ _ _ _ _ hf
    exact absurd hf (by show ¬ (1 : Int) = 0; decide)
  | succ d ih =>
    intro w ao n cap L hU hu hf hn hin hft
    have hz := first_zero ((Trees.stmtsFault_succ d n L).symm.trans hft)
    obtain ⟨F, eF⟩ : ∃ F : Nat → Int, F = fun i => stmtSense len U u f d (L i) := ⟨_, rfl⟩
    have HF : Hid (∀ k, F k = stmtSense len U u f d (L k)) := fun k => by rw [eF]
    have ES : Hid (stmtsSense len U u f (d + 1) n L = first F n) := by rw [eF]; exact stmtsSense_succ len U u f d n L
    have kp : ∀ (s : ByteArray) (W : World), Below w.heap.size w W → _ := fun s W h => has W f.pl f.pc f.pa f.ps s hf.2.1 (texts (Strs_below h hf.2.2.2.1))
    have kv : ∀ (s : ByteArray) (W : World), Below w.heap.size w W → _ := fun s W h => has W u.vl u.vc u.va u.vs s hu.1.2.1 (texts (Strs_below h hu.2.1))
    have ka : ∀ (s : ByteArray) (W : World), Below w.heap.size w W → _ := fun s W h => arrayAt W u.al u.ac u.aa u.an s hu.1.2.2.1 (pairs (ARow_below h hu.2.2.1)) (.string u.name) (.slice u.va u.vl u.vc) (.slice u.fa u.fl u.fc)
    have ke : ∀ (k j : Nat) (W : World), k < n → j < (L k []).el → Below w.heap.size w W → Calls Try.prog 47 #[.slice pa len pcap, .agg #[.string u.name, .slice u.va u.vl u.vc, .slice u.aa u.al u.ac, .slice u.fa u.fl u.fc], .agg #[.string f.name, .bool f.op, .slice f.pa f.pl f.pc, .slice f.ba f.bl f.bc], .agg #[.int .i64 ((L k []).ex j []).kind, .int .i64 ((L k []).ex j []).n, .string ((L k []).ex j []).of, .string ((L k []).ex j []).s, .slice ((L k []).ex j []).ao ((L k []).ex j []).len ((L k []).ex j []).cap]] W fun e w' => e = .returned (.int .i64 (exprSense len U u f 12 ((L k []).ex j))) ∧ Below W.heap.size W w' :=
      fun k j W hk hj h => NRefSense.sense len pcap pa U u f hl 12 ((L k []).ex j) W (URow_below h hU) (UnitLies_below h hu) (FuncLies_below h hf) ((ERow_below h (hin k hk).2.2.1) j hj).2.1 ((ERow_below h (hin k hk).2.2.1) j hj).2.2 (NStmts.head_zero (NStmts.stmt_zero (hz k hk)).1 j hj)
    have kb : ∀ (k : Nat) (W : World), k < n → Below w.heap.size w W → _ := fun k W hk h => ih W (L k []).ba (L k []).bl (L k []).bc (inBody (L k)) (URow_below h hU) (UnitLies_below h hu) (FuncLies_below h hf) (hin k hk).2.1.2.2.1 (SRow_below h (hin k hk).2.2.2.1) (NStmts.stmt_zero (hz k hk)).2.1
    have kl : ∀ (k : Nat) (W : World), k < n → Below w.heap.size w W → _ := fun k W hk h => ih W (L k []).la (L k []).ll (L k []).lc (inElse (L k)) (URow_below h hU) (UnitLies_below h hu) (FuncLies_below h hf) (hin k hk).2.1.2.2.2 (SRow_below h (hin k hk).2.2.2.2) (NStmts.stmt_zero (hz k hk)).2.2
    have hsz := fun k (hk : k < n) => (hin k hk).2.1
    have KP : Hid _ := kp
    have KV : Hid _ := kv
    have KA : Hid _ := ka
    have KE : Hid _ := ke
    have KB : Hid _ := kb
    have KL : Hid _ := kl
    have HSZ : Hid _ := hsz
    have HI : Hid (SRow w (d + 1) ao n L) := hin
    obtain ⟨w0, ew⟩ : ∃ w0, w0 = ((w.alloc (.cells #[.string u.name, .slice u.va u.vl u.vc, .slice u.aa u.al u.ac, .slice u.fa u.fl u.fc] 38)).alloc (.cells #[.string f.name, .bool f.op, .slice f.pa f.pl f.pc, .slice f.ba f.bl f.bc] 52)) := ⟨_, rfl⟩
    have hb0 : Below w.heap.size w w0 := by rw [ew]; exact below2 w _ _
    have bx : ∀ W, Below w0.heap.size w0 W → (W.cell? ⟨w.heap.size, 0, none⟩ = some (.string u.name) ∧ W.cell? ⟨w.heap.size, 1, none⟩ = some (.slice u.va u.vl u.vc) ∧ W.cell? ⟨w.heap.size, 2, none⟩ = some (.slice u.aa u.al u.ac) ∧ W.cell? ⟨w.heap.size, 3, none⟩ = some (.slice u.fa u.fl u.fc)) ∧
      (W.cell? ⟨w.heap.size + 1, 0, none⟩ = some (.string f.name) ∧ W.cell? ⟨w.heap.size + 1, 1, none⟩ = some (.bool f.op) ∧ W.cell? ⟨w.heap.size + 1, 2, none⟩ = some (.slice f.pa f.pl f.pc) ∧ W.cell? ⟨w.heap.size + 1, 3, none⟩ = some (.slice f.ba f.bl f.bc)) := by
      rw [ew]
      exact fun W h => four h
    have EW : Hid (((w.alloc (.cells #[.string u.name, .slice u.va u.vl u.vc, .slice u.aa u.al u.ac, .slice u.fa u.fl u.fc] 38)).alloc (.cells #[.string f.name, .bool f.op, .slice f.pa f.pl f.pc, .slice f.ba f.bl f.bc] 52)) = w0) := ew.symm
    have BX : Hid _ := bx
    have HB0 : Hid _ := hb0
    unfold maxLen at hn
    have hnI : (n : Int) ≤ 9223372036854775807 := by omega
    clear kp kv ka ke kb kl hsz hin hft hz ih eF bx ew hn hU hu hf hb0 hl
    go_enter Try.func23, Try.ntmps23
    go_wp2
    rw [EW.out]
    go_loopg [9] n (fun g i wr => ∃ k : Nat, k ≤ n ∧ Hid (g = n - k) ∧ i = .int .i64 k ∧ Hid (first F k = 0) ∧ Below w0.heap.size w0 wr)
    case atStart => exact ⟨0, Nat.zero_le _, rfl, rfl, rfl, Below.refl _ _⟩
    case round =>
      obtain ⟨k, hk, hg, rfl, FK, hbel⟩ := hrel
      have hup := HB0.out.trans (hbel.mono HB0.out.size)
      by_cases hkn : k < n
      · obtain ⟨⟨bl0, off, ea0, t0, t1, t2, t3, t4⟩, _⟩ := SRow_below hup HI.out k hkn
        have hkI : (k : Int) < n := by omega
        have SS : stmtSense len U u f d (L k) = if headSense len U u f (L k []) = 0 then if stmtsSense len U u f d (L k []).bl (inBody (L k)) = 0 then stmtsSense len U u f d (L k []).ll (inElse (L k)) else stmtsSense len U u f d (L k []).bl (inBody (L k)) else headSense len U u f (L k []) := rfl
        have SH : headSense len U u f (L k []) = if setFault u f (L k []) = 0 then first (fun j => exprSense len U u f 12 ((L k []).ex j)) (L k []).el else setFault u f (L k []) := rfl
        have SF : setFault u f (L k []) = if (L k []).kind = 1 then (if varThere u f (L k []).s = true then 0 else 5) else if (L k []).kind = 2 then (if arrayThere u (L k []).s = true then 0 else 5) else 0 := rfl
        have FKK := HF.out k
        have kb := fun W h => KB.out k W hkn h
        have kl := fun W h => KL.out k W hkn h
        have ke := fun j W hj h => KE.out k j W hkn hj h
        have kp := fun W h => KP.out (L k []).s W h
        have kv := fun W h => KV.out (L k []).s W h
        have ka := fun W h => KA.out (L k []).s W h
        obtain ⟨_, hel, hbl, hll⟩ := HSZ.out k hkn
        obtain ⟨⟨G, eG⟩⟩ : Nonempty {G : Nat → Int // G = fun j => exprSense len U u f 12 ((L k []).ex j)} := ⟨⟨_, rfl⟩⟩
        rw [← eG] at SH
        have GJ : ∀ j, exprSense len U u f 12 ((L k []).ex j) = G j := fun j => by rw [eG]
        clear eG
        have HE : Hid (ERow w (L k []).ea (L k []).el (L k []).ex 12) := (HI.out k hkn).2.2.1
        obtain ⟨r, er⟩ : ∃ r, r = F k := ⟨_, rfl⟩
        rw [← er] at FKK
        rw [← FKK] at SS
        generalize headSense len U u f (L k []) = hd at SS SH
        generalize setFault u f (L k []) = sf at SH SF
        rw [varThere, has_both] at SF
        rw [arrayThere] at SF
        generalize stmtsSense len U u f d (L k []).bl (inBody (L k)) = r2 at kb SS
        generalize stmtsSense len U u f d (L k []).ll (inElse (L k)) = r3 at kl SS
        clear KB KL KE KP KV KA HSZ HI HF FKK
        generalize L k [] = x at *
        obtain ⟨kind, s, ea, el, ec, ex, ba, bl, bc, la, ll, lc⟩ := x
        dsimp only at *
        subst ea0
        unfold maxLen at hel hbl hll
        have hI1 : (el : Int) ≤ 9223372036854775807 := by omega
        have hI2 : (bl : Int) ≤ 9223372036854775807 := by omega
        have hI3 : (ll : Int) ≤ 9223372036854775807 := by omega
        obtain ⟨⟨a0, a1, a2, a3⟩, ⟨b0, b1, b2, b3⟩⟩ := BX.out wr hbel
        have pa0 := past a0
        have pa1 := past a1
        have pa2 := past a2
        have pa3 := past a3
        have pb0 := past b0
        have pb1 := past b1
        have pb2 := past b2
        have pb3 := past b3
        have hbz := hbel.alloc hbel.size (.cells #[.int .i64 kind, .string s, .slice ea el ec, .slice ba bl bc, .slice la ll lc] 81)
        have ER : Hid (r = F k) := er
        have GJ2 : Hid _ := GJ
        have KB2 : Hid _ := kb
        have KL2 : Hid _ := kl
        have KE2 : Hid _ := ke
        have KP2 : Hid _ := kp
        have KV2 : Hid _ := kv
        have KA2 : Hid _ := ka
        have HB : Hid _ := hbel
        have UP : Hid _ := hup
        have BZ : Hid _ := hbz
        clear kb kl ke kp kv ka hbel hup hbz a0 a1 a2 a3 b0 b1 b2 b3 er GJ hel hbl hll
        obtain ⟨wz, ez⟩ : ∃ wz, wz = wr.alloc (.cells #[.int .i64 kind, .string s, .slice ea el ec, .slice ba bl bc, .slice la ll lc] 81) := ⟨_, rfl⟩
        have cx : ∀ W, Below wz.heap.size wz W → W.cell? ⟨wr.heap.size, 0, none⟩ = some (.int .i64 kind) ∧ W.cell? ⟨wr.heap.size, 1, none⟩ = some (.string s) ∧ W.cell? ⟨wr.heap.size, 2, none⟩ = some (.slice ea el ec) ∧ W.cell? ⟨wr.heap.size, 3, none⟩ = some (.slice ba bl bc) ∧ W.cell? ⟨wr.heap.size, 4, none⟩ = some (.slice la ll lc) := by
          rw [ez]
          exact fun W h => box5 h
        rw [← ez] at BZ
        have CX : Hid _ := cx
        have EZ : Hid (wr.alloc (.cells #[.int .i64 kind, .string s, .slice ea el ec, .slice ba bl bc, .slice la ll lc] 81) = wz) := ez.symm
        clear cx ez
        have way : (sf = 5 ∧ ((kind = 1 ∧ hasB f.ps s f.pl = false ∧ hasB u.vs s u.vl = false) ∨ (kind = 2 ∧ placeFrom u.an s 0 u.al = -1))) ∨ (sf = 0 ∧ ((kind = 1 ∧ hasB f.ps s f.pl = true) ∨ (kind = 1 ∧ hasB f.ps s f.pl = false ∧ hasB u.vs s u.vl = true) ∨ (kind = 2 ∧ ∃ q : Nat, placeFrom u.an s 0 u.al = q) ∨ (kind ≠ 1 ∧ kind ≠ 2))) := by
          by_cases h1 : kind = 1
          · rw [if_pos h1] at SF
            cases hp : hasB f.ps s f.pl
            · rw [hp, Bool.false_or] at SF
              cases hv : hasB u.vs s u.vl
              · rw [hv, if_neg (by decide)] at SF
                exact .inl ⟨SF, .inl ⟨h1, rfl, rfl⟩⟩
              · rw [hv, if_pos rfl] at SF
                exact .inr ⟨SF, .inr (.inl ⟨h1, rfl, rfl⟩)⟩
            · rw [hp, Bool.true_or, if_pos rfl] at SF
              exact .inr ⟨SF, .inl ⟨h1, rfl⟩⟩
          · rw [if_neg h1] at SF
            by_cases h2 : kind = 2
            · rw [if_pos h2] at SF
              rcases place_range u.an s u.al 0 with h | ⟨h0, _⟩
              · rw [show hasB u.an s u.al = false by rw [hasB, h]; rfl, if_neg (by decide)] at SF
                exact .inl ⟨SF, .inr ⟨h2, h⟩⟩
              · rw [show hasB u.an s u.al = true from decide_eq_true h0, if_pos rfl] at SF
                exact .inr ⟨SF, .inr (.inr (.inl ⟨h2, (placeFrom u.an s 0 u.al).toNat, by omega⟩))⟩
            · rw [if_neg h2] at SF
              exact .inr ⟨SF, .inr (.inr (.inr ⟨h1, h2⟩))⟩
        clear SF
        obtain ⟨⟨a0, a1, a2, a3⟩, ⟨b0, b1, b2, b3⟩⟩ := BX.out wz BZ.out
        obtain ⟨c0, c1, c2, c3, c4⟩ := CX.out wz (Below.refl _ _)
        have UZ : Hid (Below w.heap.size w wz) := HB0.out.trans (BZ.out.mono HB0.out.size)
        rcases way with ⟨hsf, way⟩ | ⟨hsf, way⟩
        · have E : Hid (first F n = 5) := by
            rw [hsf, if_neg (by decide)] at SH
            rw [SH, if_neg (by decide)] at SS
            exact (first_stops hkn FK.out (by rw [← ER.out, SS]; decide)).trans (ER.out.symm.trans SS)
          clear SS SH hsf KB2 KL2 KE2 HE GJ2
          rcases way with ⟨rfl, hp, hv⟩ | ⟨rfl, hq⟩
          · have KP3 : Hid (∀ W, Below w.heap.size w W → Calls Try.prog 45 #[.slice f.pa f.pl f.pc, .string s] W fun e w' => e = .returned (.bool false) ∧ w' = W) := fun W h => by have := KP2.out W h; rw [hp] at this; exact this
            have KV3 : Hid (∀ W, Below w.heap.size w W → Calls Try.prog 45 #[.slice u.va u.vl u.vc, .string s] W fun e w' => e = .returned (.bool false) ∧ w' = W) := fun W h => by have := KV2.out W h; rw [hv] at this; exact this
            clear KP2 KV2 KA2 hp hv
            go_wp2_with (first
              | (go_at_call_of 45 (Value.slice f.pa f.pl f.pc); rw [EZ.out]; refine (KP3.out _ UZ.out).mono ?_; rintro e w1 ⟨rfl, hw⟩; rw [hw]; clear hw w1)
              | (go_at_call_of 45 (Value.slice u.va u.vl u.vc); refine (KV3.out _ UZ.out).mono ?_; rintro e w1 ⟨rfl, hw⟩; rw [hw]; clear hw w1))
            go_ret
            exact ⟨by rw [ES.out, E.out]; rfl, UZ.out⟩
          · have KA3 : Hid (∀ W, Below w.heap.size w W → Calls Try.prog 46 #[.agg #[.string u.name, .slice u.va u.vl u.vc, .slice u.aa u.al u.ac, .slice u.fa u.fl u.fc], .string s] W fun e w' => e = .returned (.int .i64 (-1)) ∧ Below W.heap.size W w') := fun W h => by have := KA2.out W h; rw [hq] at this; exact this
            clear KP2 KV2 KA2 hq
            go_wp2_with (go_at_call 46; rw [EZ.out]; refine (KA3.out _ UZ.out).mono ?_; rintro e w1 ⟨rfl, hb1⟩; have HB1 : Hid _ := hb1; clear hb1)
            go_ret
            exact ⟨by rw [ES.out, E.out]; rfl, UZ.out.trans (HB1.out.mono UZ.out.size)⟩
        · rw [if_pos hsf] at SH
          clear hsf
          go_upto_region 5 with fail
          rw [EZ.out]
          go_cut [54] from 14 to 90 (fun s54 wx => s54 = .bool false ∧ Below wz.heap.size wz wx)
          case first =>
            clear KB2 KL2 KE2 HE GJ2 SS SH pa0 pa1 pa2 pa3 pb0 pb1 pb2 pb3
            rcases way with ⟨rfl, hp⟩ | ⟨rfl, hp, hv⟩ | ⟨rfl, q, hq⟩ | ⟨n1, n2⟩
            · have KP3 : Hid (∀ W, Below w.heap.size w W → Calls Try.prog 45 #[.slice f.pa f.pl f.pc, .string s] W fun e w' => e = .returned (.bool true) ∧ w' = W) := fun W h => by have := KP2.out W h; rw [hp] at this; exact this
              clear KP2 KV2 KA2 hp
              go_wp2_with (go_at_call_of 45 (Value.slice f.pa f.pl f.pc); refine (KP3.out _ UZ.out).mono ?_; rintro e w1 ⟨rfl, hw⟩; rw [hw]; clear hw w1)
              go_meet
              exact ⟨rfl, Below.refl _ _⟩
            · have KP3 : Hid (∀ W, Below w.heap.size w W → Calls Try.prog 45 #[.slice f.pa f.pl f.pc, .string s] W fun e w' => e = .returned (.bool false) ∧ w' = W) := fun W h => by have := KP2.out W h; rw [hp] at this; exact this
              have KV3 : Hid (∀ W, Below w.heap.size w W → Calls Try.prog 45 #[.slice u.va u.vl u.vc, .string s] W fun e w' => e = .returned (.bool true) ∧ w' = W) := fun W h => by have := KV2.out W h; rw [hv] at this; exact this
              clear KP2 KV2 KA2 hp hv
              go_wp2_with (first
                | (go_at_call_of 45 (Value.slice f.pa f.pl f.pc); refine (KP3.out _ UZ.out).mono ?_; rintro e w1 ⟨rfl, hw⟩; rw [hw]; clear hw w1)
                | (go_at_call_of 45 (Value.slice u.va u.vl u.vc); refine (KV3.out _ UZ.out).mono ?_; rintro e w1 ⟨rfl, hw⟩; rw [hw]; clear hw w1))
              go_meet
              exact ⟨rfl, Below.refl _ _⟩
            · have KA3 : Hid (∀ W, Below w.heap.size w W → Calls Try.prog 46 #[.agg #[.string u.name, .slice u.va u.vl u.vc, .slice u.aa u.al u.ac, .slice u.fa u.fl u.fc], .string s] W fun e w' => e = .returned (.int .i64 q) ∧ Below W.heap.size W w') := fun W h => by have := KA2.out W h; rw [hq] at this; exact this
              clear KP2 KV2 KA2 hq
              go_wp2_with (go_at_call 46; refine (KA3.out _ UZ.out).mono ?_; rintro e w1 ⟨rfl, hb1⟩; have HB1 : Hid _ := hb1; clear hb1)
              go_meet
              exact ⟨rfl, HB1.out⟩
            · have m1 : (kind == 1) = false := beq_eq_false_iff_ne.2 n1
              have m2 : (kind == 2) = false := beq_eq_false_iff_ne.2 n2
              clear KP2 KV2 KA2 n1 n2
              go_wp2
              go_meet
              exact ⟨rfl, Below.refl _ _⟩
          case rest =>
            obtain ⟨rfl, hwc⟩ := hcut
            have HWC : Hid _ := hwc
            have SH2 : Hid (hd = first G el) := SH
            have SS2 : Hid (r = if hd = 0 then if r2 = 0 then r3 else r2 else hd) := SS
            clear hwc SH SS way KP2 KV2 KA2 pa0 pa1 pa2 pa3 pb0 pb1 pb2 pb3 a0 a1 a2 a3 b0 b1 b2 b3 c0 c1 c2 c3 c4
            obtain ⟨⟨a0, a1, a2, a3⟩, ⟨b0, b1, b2, b3⟩⟩ := BX.out wc (BZ.out.trans (HWC.out.mono BZ.out.size))
            obtain ⟨c0, c1, c2, c3, c4⟩ := CX.out wc HWC.out
            go_wp2
            clear a0 a1 a2 a3 b0 b1 b2 b3 c0 c1 c2 c3 c4
            go_loopw [11] (fun i w2 => ∃ m : Nat, m ≤ el ∧ i = .int .i64 m ∧ Hid (first G m = 0) ∧ Below wz.heap.size wz w2) (fun i _ => el - (intOf i).toNat)
            case atStart => exact ⟨0, Nat.zero_le _, rfl, rfl, HWC.out⟩
            case round =>
              revert wr
              intro w2 hrel
              obtain ⟨m, hm, rfl, FM, hb2⟩ := hrel
              have H2 : Hid (Below wz.heap.size wz w2) := hb2
              have U2 : Hid (Below w.heap.size w w2) := UZ.out.trans (hb2.mono UZ.out.size)
              obtain ⟨⟨a0, a1, a2, a3⟩, ⟨b0, b1, b2, b3⟩⟩ := BX.out w2 (BZ.out.trans (hb2.mono BZ.out.size))
              obtain ⟨c0, c1, c2, c3, c4⟩ := CX.out w2 hb2
              clear t0 t1 t2 t3 t4 hb2
              by_cases hml : m < el
              · obtain ⟨⟨be, oe, ee, s0, s1, s2, s3, s4⟩, _, _⟩ := ERow_below U2.out HE.out m hml
                have hmI : (m : Int) < el := by omega
                have kk := fun W h => KE2.out m W hml h
                have gm := GJ2.out m
                generalize exprSense len U u f 12 (ex m) = r1 at kk gm
                generalize ex m [] = y at kk s0 s1 s2 s3 s4
                obtain ⟨yk, yn, yof, ys, yao, yl, yc⟩ := y
                subst ee
                dsimp only at kk s0 s1 s2 s3 s4
                have KK : Hid _ := kk
                have GM : Hid (r1 = G m) := gm
                clear kk gm KE2 HE GJ2 KB2 KL2
                by_cases hr : r1 = 0
                · subst hr
                  go_wp2
                  go_region_law (go_simp; go_at_call 47; refine (KK.out _ (by exact U2.out.drew)).mono ?_; rintro e w9 ⟨rfl, hb9⟩; have HB9 : Hid (Below wz.heap.size wz w9) := H2.out.drew.trans (hb9.mono H2.out.size); clear hb9)
                  all_goals
                    go_wp2
                    go_roundw
                    case rel => exact ⟨m + 1, by omega, by go_num, by rw [first_succ FM.out]; exact GM.out.symm, HB9.out⟩
                    case measure => simp [intOf]; omega
                · have hr2 : (r1 == 0) = false := beq_eq_false_iff_ne.2 hr
                  have e1 : hd = r1 := SH2.out.trans ((first_stops hml FM.out (by rw [← GM.out]; exact hr)).trans GM.out.symm)
                  have e2 : r = r1 := by rw [SS2.out, e1, if_neg hr]
                  have E : Hid (first F n = r1) := (first_stops hkn FK.out (by rw [← ER.out, e2]; exact hr)).trans (ER.out.symm.trans e2)
                  clear e1 e2 hr SH2 SS2
                  go_wp2
                  go_region_law (go_simp; go_at_call 47; refine (KK.out _ (by exact U2.out.drew)).mono ?_; rintro e w9 ⟨rfl, hb9⟩; have HB9 : Hid (Below w.heap.size w w9) := U2.out.drew.trans (hb9.mono U2.out.size); clear hb9)
                  all_goals
                    go_wp2
                    go_ret
                    exact ⟨by rw [ES.out, E.out]; rfl, HB9.out⟩
              · obtain rfl : m = el := by omega
                have e1 : hd = 0 := SH2.out.trans FM.out
                have SS3 : r = if r2 = 0 then r3 else r2 := by rw [SS2.out, if_pos e1]
                clear KE2 HE GJ2 SH2 SS2 e1
                by_cases h2 : r2 = 0
                · rw [if_pos h2] at SS3
                  subst h2
                  by_cases h3 : r3 = 0
                  · have E : Hid (F k = 0) := ER.out.symm.trans (SS3.trans h3)
                    subst h3
                    clear SS3
                    go_wp2_with fail
                    refine (KB2.out _ U2.out).mono ?_
                    rintro e w5 ⟨rfl, hb5⟩
                    clear a0 a1 a2 a3 b0 b1 b2 b3 c0 c1 c2 c3 c4
                    have H5 : Hid (Below wz.heap.size wz w5) := H2.out.trans (hb5.mono H2.out.size)
                    have U5 : Hid (Below w.heap.size w w5) := U2.out.trans (hb5.mono U2.out.size)
                    obtain ⟨⟨a0, a1, a2, a3⟩, ⟨b0, b1, b2, b3⟩⟩ := BX.out w5 (BZ.out.trans (H5.out.mono BZ.out.size))
                    obtain ⟨c0, c1, c2, c3, c4⟩ := CX.out w5 H5.out
                    clear hb5
                    go_wp2_with fail
                    refine (KL2.out _ U5.out).mono ?_
                    rintro e w6 ⟨rfl, hb6⟩
                    have H6 : Hid (Below w0.heap.size w0 w6) := BZ.out.trans ((H5.out.trans (hb6.mono H5.out.size)).mono BZ.out.size)
                    clear a0 a1 a2 a3 b0 b1 b2 b3 c0 c1 c2 c3 c4 hb6
                    go_wp2_with fail
                    go_roundg (n - (k + 1))
                    case measure => have := hg.out; omega
                    case rel => exact ⟨k + 1, by omega, rfl, by go_num, by rw [first_succ FK.out]; exact E.out, H6.out⟩
                  · have h3n : (r3 == 0) = false := beq_eq_false_iff_ne.2 h3
                    have E : Hid (first F n = r3) := (first_stops hkn FK.out (by rw [← ER.out, SS3]; exact h3)).trans (ER.out.symm.trans SS3)
                    clear SS3 h3
                    go_wp2_with fail
                    refine (KB2.out _ U2.out).mono ?_
                    rintro e w5 ⟨rfl, hb5⟩
                    clear a0 a1 a2 a3 b0 b1 b2 b3 c0 c1 c2 c3 c4
                    have H5 : Hid (Below wz.heap.size wz w5) := H2.out.trans (hb5.mono H2.out.size)
                    have U5 : Hid (Below w.heap.size w w5) := U2.out.trans (hb5.mono U2.out.size)
                    obtain ⟨⟨a0, a1, a2, a3⟩, ⟨b0, b1, b2, b3⟩⟩ := BX.out w5 (BZ.out.trans (H5.out.mono BZ.out.size))
                    obtain ⟨c0, c1, c2, c3, c4⟩ := CX.out w5 H5.out
                    clear hb5
                    go_wp2_with fail
                    refine (KL2.out _ U5.out).mono ?_
                    rintro e w6 ⟨rfl, hb6⟩
                    have U6 : Hid (Below w.heap.size w w6) := U5.out.trans (hb6.mono U5.out.size)
                    clear a0 a1 a2 a3 b0 b1 b2 b3 c0 c1 c2 c3 c4 hb6
                    go_wp2_with fail
                    go_ret
                    exact ⟨by rw [ES.out, E.out]; rfl, U6.out⟩
                · rw [if_neg h2] at SS3
                  have h2n : (r2 == 0) = false := beq_eq_false_iff_ne.2 h2
                  have E : Hid (first F n = r2) := (first_stops hkn FK.out (by rw [← ER.out, SS3]; exact h2)).trans (ER.out.symm.trans SS3)
                  clear SS3 h2 KL2
                  go_wp2_with fail
                  refine (KB2.out _ U2.out).mono ?_
                  rintro e w5 ⟨rfl, hb5⟩
                  have U5 : Hid (Below w.heap.size w w5) := U2.out.trans (hb5.mono U2.out.size)
                  clear a0 a1 a2 a3 b0 b1 b2 b3 c0 c1 c2 c3 c4 hb5
                  go_wp2_with fail
                  go_ret
                  exact ⟨by rw [ES.out, E.out]; rfl, U5.out⟩
      · obtain rfl : k = n := by omega
        have UP : Hid _ := hup
        clear KB KL KE KP KV KA HSZ HI HF hbel hup
        go_wp2
        go_ret
        exact ⟨by rw [ES.out, FK.out]; rfl, UP.out⟩
end Go.Proofs.Ytalnfnkpemojhaa.NRefStmts
