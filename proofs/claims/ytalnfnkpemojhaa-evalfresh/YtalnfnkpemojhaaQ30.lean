/-
  WHAT THE DOCUMENT's exprSense GIVES (P7.2): of every expression that may be.
  Conditions: the units, the function and the expression lie there.
-/
import Derived.Test.YtalnfnkpemojhaaQ19
import Derived.Test.YtalnfnkpemojhaaQ20
import Derived.Test.YtalnfnkpemojhaaQ21
import Derived.Test.YtalnfnkpemojhaaQ22
import Derived.Test.YtalnfnkpemojhaaQ23
import Derived.Test.YtalnfnkpemojhaaQ24
import Derived.Test.YtalnfnkpemojhaaQ25
import Derived.Test.YtalnfnkpemojhaaQ26
import Derived.Test.YtalnfnkpemojhaaQ27
import Derived.Test.YtalnfnkpemojhaaQ28
import Derived.Test.YtalnfnkpemojhaaQ29
import Derived.Test.YtalnfnkpemojhaaQ5
namespace Go.Proofs.Ytalnfnkpemojhaa.NRefSense
open Go.RowKit NPlace NPlain NUnits NLists NFind Go.Proofs.Ytalnfnkpemojhaa.Ident Trees Forms NSense NScope NAsk

theorem sense (len pcap : Nat) (pa : Option Addr) (U : Nat → UnitD) (u : UnitD) (f : FuncD) (hl : len ≤ maxLen) : ∀ (d : Nat) (T : ETree) (w : World), URow w pa len U → UnitLies w u → FuncLies w f → ((T []).of.size ≤ maxLen ∧ (T []).s.size ≤ maxLen ∧ (T []).len ≤ maxLen) → ELies w d T → Trees.exprFault d T = 0 →
    Calls Try.prog 47 #[.slice pa len pcap, .agg #[.string u.name, .slice u.va u.vl u.vc, .slice u.aa u.al u.ac, .slice u.fa u.fl u.fc], .agg #[.string f.name, .bool f.op, .slice f.pa f.pl f.pc, .slice f.ba f.bl f.bc], .agg #[.int .i64 (T []).kind, .int .i64 (T []).n, .string (T []).of, .string (T []).s, .slice (T []).ao (T []).len (T []).cap]] w fun e w' => e = .returned (.int .i64 (exprSense len U u f d T)) ∧ Below w.heap.size w w' := by
  intro d
  induction d with
  | zero =>
    intro T w _ _ _ _ _ hf
    exact absurd hf (by show ¬ (1 : Int) = 0; decide)
  | succ d ih =>
    intro T w hU hu hf hz hE hft
    have hfl : ∀ (v : UnitD), UnitLies w v → ∀ k, k < v.fl → (v.fs k).pl ≤ maxLen := fun v hv k hk => (hv.2.2.2 k hk).2.2.1
    have hE' : ERow w (T []).ao (T []).len (sub T) d := hE
    have h33 : ∀ (k : Nat) (W : World), k < (T []).len → Below w.heap.size w W → Calls Try.prog 47 #[.slice pa len pcap, .agg #[.string u.name, .slice u.va u.vl u.vc, .slice u.aa u.al u.ac, .slice u.fa u.fl u.fc], .agg #[.string f.name, .bool f.op, .slice f.pa f.pl f.pc, .slice f.ba f.bl f.bc], .agg #[.int .i64 (sub T k []).kind, .int .i64 (sub T k []).n, .string (sub T k []).of, .string (sub T k []).s, .slice (sub T k []).ao (sub T k []).len (sub T k []).cap]] W fun e w' => e = .returned (.int .i64 (exprSense len U u f d (sub T k))) ∧ Below W.heap.size W w' :=
      fun k W hk hb => ih (sub T k) W (URow_below hb hU) (UnitLies_below hb hu) (FuncLies_below hb hf) (hE' k hk).2.1 (ELies_below hb (hE' k hk).2.2) (NExprs.fault_succ hft k hk)
    obtain ⟨G, eG⟩ : ∃ G : Nat → Int, G = fun k => exprSense len U u f d (sub T k) := ⟨_, rfl⟩
    have h33' : ∀ (k : Nat) (W : World), k < (T []).len → Below w.heap.size w W → Calls Try.prog 47 #[.slice pa len pcap, .agg #[.string u.name, .slice u.va u.vl u.vc, .slice u.aa u.al u.ac, .slice u.fa u.fl u.fc], .agg #[.string f.name, .bool f.op, .slice f.pa f.pl f.pc, .slice f.ba f.bl f.bc], .agg #[.int .i64 (sub T k []).kind, .int .i64 (sub T k []).n, .string (sub T k []).of, .string (sub T k []).s, .slice (sub T k []).ao (sub T k []).len (sub T k []).cap]] W fun e w' => e = .returned (.int .i64 (G k)) ∧ Below W.heap.size W w' := by rw [eG]; exact h33
    have ES : exprSense len U u f (d + 1) T = if nameFault len U u f (T []) = 0 then first G (T []).len else nameFault len U u f (T []) := by rw [exprSense, eG]
    have NF : nameFault len U u f (T []) = if (T []).kind = 2 then (if varThere u f (T []).s = true then 0 else 5) else if (T []).kind = 3 then (if arrayThere u (T []).s = true then 0 else 5) else if (T []).kind = 4 then (match asked len U u (T []).of (T []).s with | some g => if g.pl = (T []).len then 0 else 7 | none => 5) else 0 := rfl
    have hal := hz.2.2
    clear h33 ih hE hft eG
    rw [ES]
    clear ES
    generalize sub T = E at hE' h33'
    generalize nameFault len U u f (T []) = nf at NF ⊢
    generalize T [] = x at *
    clear T hz
    obtain ⟨kind, n, of, s, ao, alen, acap⟩ := x
    dsimp only at *
    by_cases h2 : kind = 2
    · subst h2
      rw [if_pos rfl, varThere, has_both] at NF
      rcases Bool.eq_false_or_eq_true (hasB f.ps s f.pl) with hp | hp
      · rw [hp, Bool.true_or, if_pos rfl] at NF
        rw [NF, if_pos rfl]
        exact NRefO0.var_param w len pcap pa U u f n of s ao alen acap E d G hl hU hu hf hal hE' h33' hp
      · rw [hp, Bool.false_or] at NF
        rcases Bool.eq_false_or_eq_true (hasB u.vs s u.vl) with hv | hv
        · rw [hv, if_pos rfl] at NF
          rw [NF, if_pos rfl]
          exact NRefO1.var_var w len pcap pa U u f n of s ao alen acap E d G hl hU hu hf hal hE' h33' hp hv
        · rw [hv, if_neg (by decide)] at NF
          rw [NF, if_neg (by decide)]
          exact NRefO2.var_none w len pcap pa U u f n of s ao alen acap E d G hl hU hu hf hal hE' h33' hp hv
    rw [if_neg h2] at NF
    by_cases h3 : kind = 3
    · subst h3
      rw [if_pos rfl, arrayThere] at NF
      rcases place_range u.an s u.al 0 with h | ⟨h0, h1⟩
      · rw [show hasB u.an s u.al = false by rw [hasB, h]; rfl, if_neg (by decide)] at NF
        rw [NF, if_neg (by decide)]
        exact NRefO4.elem_none w len pcap pa U u f n of s ao alen acap E d G hl hU hu hf hal hE' h33' h
      · rw [show hasB u.an s u.al = true from decide_eq_true (by omega), if_pos rfl] at NF
        rw [NF, if_pos rfl]
        exact NRefO3.elem_there w len pcap pa U u f n of s ao alen acap E d G hl hU hu hf hal hE' h33' (placeFrom u.an s 0 u.al).toNat (by omega)
    rw [if_neg h3] at NF
    by_cases h4 : kind = 4
    · subst h4
      rw [if_pos rfl] at NF
      rcases Bool.eq_false_or_eq_true (of.toList == []) with ho | ho
      · rw [asked, if_pos ho, funcOf] at NF
        rcases place_range (funcNames u) s u.fl 0 with h | ⟨h0, h1⟩
        · rw [if_neg (by omega)] at NF
          have NF : nf = 5 := NF
          rw [NF, if_neg (by decide)]
          exact NRefA0.own_none w len pcap pa U u f n of s ao alen acap E d G hl hU hu hf hal hE' h33' ho h
        · rw [if_pos (by omega)] at NF
          obtain ⟨k, hk⟩ : ∃ k : Nat, placeFrom (funcNames u) s 0 u.fl = k := ⟨(placeFrom (funcNames u) s 0 u.fl).toNat, by omega⟩
          rw [hk, Int.toNat_natCast] at NF
          have NF : nf = if (u.fs k).pl = alen then 0 else 7 := NF
          by_cases hq : (u.fs k).pl = alen
          · rw [if_pos hq] at NF
            rw [NF, if_pos rfl]
            exact NRefA2.own_ok w len pcap pa U u f n of s ao alen acap E d G hl hU hu hf hal hE' h33' ho k hk (by omega) _ rfl (hfl u hu k (by omega)) hq
          · rw [if_neg hq] at NF
            rw [NF, if_neg (by decide)]
            exact NRefA1.own_count w len pcap pa U u f n of s ao alen acap E d G hl hU hu hf hal hE' h33' ho k hk (by omega) _ rfl (hfl u hu k (by omega)) hq
      · rw [asked, if_neg (by rw [ho]; decide)] at NF
        rcases place_range (unitNames U) of len 0 with h | ⟨h0, h1⟩
        · rw [if_neg (by omega)] at NF
          have NF : nf = 5 := NF
          rw [NF, if_neg (by decide)]
          exact NRefB0.of_nounit w len pcap pa U u f n of s ao alen acap E d G hl hU hu hf hal hE' h33' ho h
        · rw [if_pos (by omega)] at NF
          obtain ⟨i, hi⟩ : ∃ i : Nat, placeFrom (unitNames U) of 0 len = i := ⟨(placeFrom (unitNames U) of 0 len).toNat, by omega⟩
          rw [hi, Int.toNat_natCast, funcOf] at NF
          have hil : i < len := by omega
          have hv := (hU i hil).2
          obtain ⟨v, ev⟩ : ∃ v, U i = v := ⟨_, rfl⟩
          rw [ev] at NF hv
          rcases place_range (funcNames v) s v.fl 0 with g | ⟨g0, g1⟩
          · rw [if_neg (by omega)] at NF
            have NF : nf = 5 := NF
            rw [NF, if_neg (by decide)]
            exact NRefB1.of_none w len pcap pa U u f n of s ao alen acap E d G hl hU hu hf hal hE' h33' ho i hi hil v ev g
          · rw [if_pos (by omega)] at NF
            obtain ⟨k, hk⟩ : ∃ k : Nat, placeFrom (funcNames v) s 0 v.fl = k := ⟨(placeFrom (funcNames v) s 0 v.fl).toNat, by omega⟩
            rw [hk, Int.toNat_natCast] at NF
            have NF : nf = match (if (v.fs k).op = true then some (v.fs k) else none) with | some g => if g.pl = alen then 0 else 7 | none => 5 := NF
            rcases Bool.eq_false_or_eq_true (v.fs k).op with hop | hop
            · rw [if_pos hop] at NF
              have NF : nf = if (v.fs k).pl = alen then 0 else 7 := NF
              by_cases hq : (v.fs k).pl = alen
              · rw [if_pos hq] at NF
                rw [NF, if_pos rfl]
                exact NRefB4.of_ok w len pcap pa U u f n of s ao alen acap E d G hl hU hu hf hal hE' h33' ho i hi hil v ev k hk (by omega) _ rfl (hfl v hv k (by omega)) hop hq
              · rw [if_neg hq] at NF
                rw [NF, if_neg (by decide)]
                exact NRefB3.of_count w len pcap pa U u f n of s ao alen acap E d G hl hU hu hf hal hE' h33' ho i hi hil v ev k hk (by omega) _ rfl (hfl v hv k (by omega)) hop hq
            · rw [if_neg (by rw [hop]; decide)] at NF
              have NF : nf = 5 := NF
              rw [NF, if_neg (by decide)]
              exact NRefB2.of_closed w len pcap pa U u f n of s ao alen acap E d G hl hU hu hf hal hE' h33' ho i hi hil v ev k hk (by omega) _ rfl (hfl v hv k (by omega)) hop
    rw [if_neg h4] at NF
    rw [NF, if_pos rfl]
    exact NRefO5.other w len pcap pa U u f n of s ao alen acap E d G hl hU hu hf hal hE' h33' kind (beq_eq_false_iff_ne.2 h2) (beq_eq_false_iff_ne.2 h3) (beq_eq_false_iff_ne.2 h4)
end Go.Proofs.Ytalnfnkpemojhaa.NRefSense
