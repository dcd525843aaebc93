/-
  WHAT (names.scope).exprs GIVES: whether all that expressions name is there (P7.2).
  Conditions: the scope's functions find what is there; the expressions lie there, and may be.
-/
import Derived.Test.YtgjemlhnlpglbaaDoorR30
import Derived.Test.YtgjemlhnlpglbaaDoorR31
namespace Go.Proofs.YtgjemlhnlpglbaaDoor.NExprs
open Go.RowKit NPlace NPlain NUnits NLists Go.Proofs.YtgjemlhnlpglbaaDoor.Ident Trees Forms NSense NScope NAsk NNamed

theorem fault_succ {d : Nat} {T : ETree} (h : Trees.exprFault (d + 1) T = 0) : (∀ i, i < (T []).len → Trees.exprFault d (sub T i) = 0) := by
  rw [Trees.exprFault] at h
  split at h
  · exact first_zero h
  · contradiction

theorem box3 {w w' : World} {v0 v1 v2 : Value} {t : TypeId} (hb : Below (w.alloc (.cells #[v0, v1, v2] t)).heap.size (w.alloc (.cells #[v0, v1, v2] t)) w') :
    w'.cell? ⟨w.heap.size, 0, none⟩ = some v0 ∧ w'.cell? ⟨w.heap.size, 1, none⟩ = some v1 ∧ w'.cell? ⟨w.heap.size, 2, none⟩ = some v2 := by
  have h : ∀ i : Nat, (⟨w.heap.size, i, none⟩ : Addr).block < (w.alloc (.cells #[v0, v1, v2] t)).heap.size := fun i => by simp
  exact ⟨(hb.cell (h 0)).trans (by simp), (hb.cell (h 1)).trans (by simp), (hb.cell (h 2)).trans (by simp)⟩

set_option maxHeartbeats 4000000 in
theorem exprs {B : World} {la ar pu pp : Value} {len : Nat} {U : Nat → UnitD} {u : UnitD} {f : FuncD} (hS : Scope B la ar pu pp len U u f) : ∀ (d : Nat) (w : World) (ao : Option Addr) (n cap : Nat) (E : Nat → ETree), Below B.heap.size B w → n ≤ maxLen → ERow w ao n E d → (∀ i, i < n → Trees.exprFault d (E i) = 0) →
    Calls Tryd.prog 70 #[.agg #[.func (.func 62) #[la] #[], .func (.func 62) #[ar] #[], .func (.func 63) #[] #[pu, pp]], .slice ao n cap] w fun e w' => e = .returned (.int .i64 (first (fun i => exprSense len U u f d (E i)) n)) ∧ Below w.heap.size w w' := by
  intro d
  induction d with
  | zero =>
    intro w ao n cap E hb hn hin hf
    have h0 : n = 0 := by
      rcases Nat.eq_zero_or_pos n with h | h
      · exact h
      · exact absurd (hf 0 h) (by show ¬ (1 : Int) = 0; decide)
    subst h0
    have hb0 := (Below.refl w.heap.size w).alloc (Nat.le_refl _) (.cells #[.func (.func 62) #[la] #[], .func (.func 62) #[ar] #[], .func (.func 63) #[] #[pu, pp]] 100)
    have HB0 : Hid _ := hb0
    clear hf hin hn hb hS hb0
    go_enter Tryd.func70, Tryd.ntmps70
    go_wp2
    go_loopw [11] (fun i wr => i = .int .i64 0 ∧ Below w.heap.size w wr) (fun _ _ => 0)
    case atStart => exact ⟨rfl, HB0.out⟩
    case round =>
      obtain ⟨rfl, hbel⟩ := hrel
      go_wp2
      go_ret
      exact ⟨rfl, hbel⟩
  | succ d ih =>
    intro w ao n cap E hb hn hin hf
    have kn : ∀ (k : Nat) (W : World), k < n → Below w.heap.size w W → _ := fun k W hk h => named hS W (hb.trans (h.mono hb.size)) (E k []) (hin k hk).2.1.2.2
    have ki : ∀ (k : Nat) (W : World), k < n → Below w.heap.size w W → _ := fun k W hk h => ih W (E k []).ao (E k []).len (E k []).cap (sub (E k)) (hb.trans (h.mono hb.size)) (hin k hk).2.1.2.2 (ERow_below h (hin k hk).2.2) (fault_succ (hf k hk))
    have ES : Hid (∀ k, exprSense len U u f (d + 1) (E k) = if nameFault len U u f (E k []) = 0 then first (fun i => exprSense len U u f d (sub (E k) i)) (E k []).len else nameFault len U u f (E k [])) := fun k => by rw [exprSense]
    obtain ⟨F, eF⟩ : ∃ F : Nat → Int, F = fun i => exprSense len U u f (d + 1) (E i) := ⟨_, rfl⟩
    have HF : Hid (∀ k, F k = exprSense len U u f (d + 1) (E k)) := fun k => by rw [eF]
    rw [← eF]
    have KN : Hid _ := kn
    have KI : Hid _ := ki
    have HI : Hid (ERow w ao n E (d + 1)) := hin
    obtain ⟨w0, ew⟩ : ∃ w0, w0 = w.alloc (.cells #[.func (.func 62) #[la] #[], .func (.func 62) #[ar] #[], .func (.func 63) #[] #[pu, pp]] 100) := ⟨_, rfl⟩
    have hb0 : Below w.heap.size w w0 := by rw [ew]; exact (Below.refl w.heap.size w).alloc (Nat.le_refl _) _
    have bx : ∀ W, Below w0.heap.size w0 W → W.cell? ⟨w.heap.size, 0, none⟩ = some (.func (.func 62) #[la] #[]) ∧ W.cell? ⟨w.heap.size, 1, none⟩ = some (.func (.func 62) #[ar] #[]) ∧ W.cell? ⟨w.heap.size, 2, none⟩ = some (.func (.func 63) #[] #[pu, pp]) := by
      rw [ew]
      exact fun W h => box3 h
    have EW : Hid (w.alloc (.cells #[.func (.func 62) #[la] #[], .func (.func 62) #[ar] #[], .func (.func 63) #[] #[pu, pp]] 100) = w0) := ew.symm
    have BX : Hid _ := bx
    have HB0 : Hid _ := hb0
    unfold maxLen at hn
    have hnI : (n : Int) ≤ 9223372036854775807 := by omega
    clear kn ki hin hb hS hb0 ih hf eF bx ew hn
    go_enter Tryd.func70, Tryd.ntmps70
    go_wp2
    rw [EW.out]
    go_loopw [11] (fun i wr => ∃ k : Nat, k ≤ n ∧ i = .int .i64 k ∧ first F k = 0 ∧ Below w0.heap.size w0 wr) (fun i _ => n - (intOf i).toNat)
    case atStart => exact ⟨0, Nat.zero_le _, rfl, rfl, Below.refl _ _⟩
    case round =>
      obtain ⟨k, hk, rfl, hfk, hbel⟩ := hrel
      have FK : Hid (first F k = 0) := hfk
      have HB : Hid _ := hbel
      have hup := HB0.out.trans (hbel.mono HB0.out.size)
      have UP : Hid _ := hup
      clear hfk
      by_cases hkn : k < n
      · obtain ⟨⟨bl, off, ea, t0, t1, t2, t3, t4⟩, _, _⟩ := ERow_below hup HI.out k hkn
        have hkI : (k : Int) < n := by omega
        have ekk : F k = if nameFault len U u f (E k []) = 0 then first (fun i => exprSense len U u f d (sub (E k) i)) (E k []).len else nameFault len U u f (E k []) := (HF.out k).trans (ES.out k)
        have kn := fun W h => KN.out k W hkn h
        have ki := fun W h => KI.out k W hkn h
        generalize nameFault len U u f (E k []) = r1 at kn ekk
        generalize first (fun i => exprSense len U u f d (sub (E k) i)) (E k []).len = r2 at ki ekk
        generalize E k [] = y at kn ki t0 t1 t2 t3 t4
        obtain ⟨q0, q1, q2⟩ := BX.out wr hbel
        have p0 := past q0
        have p1 := past q1
        have p2 := past q2
        have hby := hup.alloc hup.size (.cells #[.int .i64 y.kind, .int .i64 y.n, .string y.of, .string y.s, .slice y.ao y.len y.cap] 29)
        have hbz := hbel.alloc hbel.size (.cells #[.int .i64 y.kind, .int .i64 y.n, .string y.of, .string y.s, .slice y.ao y.len y.cap] 29)
        obtain ⟨yk, yn, yof, ys, yao, yl, yc⟩ := y
        subst ea
        dsimp only at *
        have KN2 : Hid _ := kn
        have KI2 : Hid _ := ki
        have BY : Hid _ := hby
        have BZ : Hid _ := hbz
        clear kn ki KN KI HI ES hbel hup q0 q1 q2 hby hbz
        by_cases h1 : r1 = 0
        · rw [if_pos h1] at ekk
          subst h1
          by_cases h2 : r2 = 0
          · have EK : Hid (F k = 0) := ekk.trans h2
            subst h2
            clear ekk
            go_wp2_with (first
              | (go_at_call 83; refine (KN2.out _ BY.out).mono ?_; rintro e w1 ⟨rfl, hb1⟩; obtain ⟨c0, c1, c2, c3, c4⟩ := box5 hb1; have hb2 := BZ.out.trans (hb1.mono BZ.out.size); obtain ⟨q0, q1, q2⟩ := BX.out _ hb2; have HB2 : Hid _ := hb2; have hb3 := BY.out.trans (hb1.mono BY.out.size); have HB3 : Hid _ := hb3; clear hb1 hb2 hb3 p0 p1 p2)
              | (go_at_call 70; refine (KI2.out _ HB3.out).mono ?_; rintro e w2 ⟨rfl, hb4⟩; have HB4 : Hid _ := HB2.out.trans (hb4.mono HB2.out.size); clear hb4))
            go_roundw
            case rel => exact ⟨k + 1, by omega, by go_num, by rw [first_succ FK.out]; exact EK.out, HB4.out⟩
            case measure => simp [intOf]; omega
          · have r2n : (r2 == 0) = false := beq_eq_false_iff_ne.2 h2
            have EK : Hid (first F n = r2) := (first_stops hkn FK.out (by rw [ekk]; exact h2)).trans ekk
            clear ekk h2
            go_wp2_with (first
              | (go_at_call 83; refine (KN2.out _ BY.out).mono ?_; rintro e w1 ⟨rfl, hb1⟩; obtain ⟨c0, c1, c2, c3, c4⟩ := box5 hb1; have hb2 := BZ.out.trans (hb1.mono BZ.out.size); obtain ⟨q0, q1, q2⟩ := BX.out _ hb2; have HB2 : Hid _ := hb2; have hb3 := BY.out.trans (hb1.mono BY.out.size); have HB3 : Hid _ := hb3; clear hb1 hb2 hb3 p0 p1 p2)
              | (go_at_call 70; refine (KI2.out _ HB3.out).mono ?_; rintro e w2 ⟨rfl, hb4⟩; have HB4 : Hid _ := HB3.out.trans (hb4.mono HB3.out.size); clear hb4))
            go_ret
            exact ⟨by rw [EK.out]; rfl, HB4.out⟩
        · rw [if_neg h1] at ekk
          have r1n : (r1 == 0) = false := beq_eq_false_iff_ne.2 h1
          have EK : Hid (first F n = r1) := (first_stops hkn FK.out (by rw [ekk]; exact h1)).trans ekk
          clear ekk h1 KI2
          go_wp2_with (go_at_call 83; refine (KN2.out _ BY.out).mono ?_; rintro e w1 ⟨rfl, hb1⟩; have hb3 := BY.out.trans (hb1.mono BY.out.size); have HB3 : Hid _ := hb3; clear hb1 hb3)
          go_ret
          exact ⟨by rw [EK.out]; rfl, HB3.out⟩
      · obtain rfl : k = n := by omega
        clear KN KI HI ES hbel hup
        go_wp2
        go_ret
        exact ⟨by rw [FK.out]; rfl, UP.out⟩
end Go.Proofs.YtgjemlhnlpglbaaDoor.NExprs
