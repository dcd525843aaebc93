/-
  THE DOCUMENT's exprSense, OF WHAT ASKS NOBODY: numbers, variables, elements, operations.
  Conditions: the units, the function and the expression's Args lie there.
-/
import Derived.Test.YtalnfnkpemojhaaQ18
namespace Go.Proofs.Ytalnfnkpemojhaa.NRefO5
open Go.RowKit NPlace NPlain NUnits NLists NFind Go.Proofs.Ytalnfnkpemojhaa.Ident Trees Forms NSense NScope NAsk NRefBase

set_option maxHeartbeats 4000000 in
theorem other (w : World) (len pcap : Nat) (pa : Option Addr) (U : Nat → UnitD) (u : UnitD) (f : FuncD) (n : Int) (of s : ByteArray) (ao : Option Addr) (alen acap : Nat) (E : Nat → ETree) (d : Nat) (G : Nat → Int)
    (_ : len ≤ maxLen) (_ : URow w pa len U) (hu : UnitLies w u) (hf : FuncLies w f) (hal : alen ≤ maxLen) (hE : ERow w ao alen E d)
    (h33 : ∀ (k : Nat) (W : World), k < alen → Below w.heap.size w W → Calls Try.prog 47 #[.slice pa len pcap, .agg #[.string u.name, .slice u.va u.vl u.vc, .slice u.aa u.al u.ac, .slice u.fa u.fl u.fc], .agg #[.string f.name, .bool f.op, .slice f.pa f.pl f.pc, .slice f.ba f.bl f.bc], .agg #[.int .i64 (E k []).kind, .int .i64 (E k []).n, .string (E k []).of, .string (E k []).s, .slice (E k []).ao (E k []).len (E k []).cap]] W fun e w' => e = .returned (.int .i64 (G k)) ∧ Below W.heap.size W w') (kind : Int) (n2 : (kind == 2) = false) (n3 : (kind == 3) = false) (n4 : (kind == 4) = false) :
    Calls Try.prog 47 #[.slice pa len pcap, .agg #[.string u.name, .slice u.va u.vl u.vc, .slice u.aa u.al u.ac, .slice u.fa u.fl u.fc], .agg #[.string f.name, .bool f.op, .slice f.pa f.pl f.pc, .slice f.ba f.bl f.bc], .agg #[.int .i64 kind, .int .i64 n, .string of, .string s, .slice ao alen acap]] w fun e w' => e = .returned (.int .i64 (first G alen)) ∧ Below w.heap.size w w' := by
  have hb3 : Below w.heap.size w (((w.alloc (.cells #[.string u.name, .slice u.va u.vl u.vc, .slice u.aa u.al u.ac, .slice u.fa u.fl u.fc] 38)).alloc (.cells #[.string f.name, .bool f.op, .slice f.pa f.pl f.pc, .slice f.ba f.bl f.bc] 52)).alloc (.cells #[.int .i64 kind, .int .i64 n, .string of, .string s, .slice ao alen acap] 85)) := (below2 w _ _).alloc (below2 w _ _).size _
  have bx : ∀ W, Below (((w.alloc (.cells #[.string u.name, .slice u.va u.vl u.vc, .slice u.aa u.al u.ac, .slice u.fa u.fl u.fc] 38)).alloc (.cells #[.string f.name, .bool f.op, .slice f.pa f.pl f.pc, .slice f.ba f.bl f.bc] 52)).alloc (.cells #[.int .i64 kind, .int .i64 n, .string of, .string s, .slice ao alen acap] 85)).heap.size (((w.alloc (.cells #[.string u.name, .slice u.va u.vl u.vc, .slice u.aa u.al u.ac, .slice u.fa u.fl u.fc] 38)).alloc (.cells #[.string f.name, .bool f.op, .slice f.pa f.pl f.pc, .slice f.ba f.bl f.bc] 52)).alloc (.cells #[.int .i64 kind, .int .i64 n, .string of, .string s, .slice ao alen acap] 85)) W → (W.cell? ⟨w.heap.size, 0, none⟩ = some (.string u.name) ∧ W.cell? ⟨w.heap.size, 1, none⟩ = some (.slice u.va u.vl u.vc) ∧ W.cell? ⟨w.heap.size, 2, none⟩ = some (.slice u.aa u.al u.ac) ∧ W.cell? ⟨w.heap.size, 3, none⟩ = some (.slice u.fa u.fl u.fc)) ∧
      (W.cell? ⟨w.heap.size + 1, 0, none⟩ = some (.string f.name) ∧ W.cell? ⟨w.heap.size + 1, 1, none⟩ = some (.bool f.op) ∧ W.cell? ⟨w.heap.size + 1, 2, none⟩ = some (.slice f.pa f.pl f.pc) ∧ W.cell? ⟨w.heap.size + 1, 3, none⟩ = some (.slice f.ba f.bl f.bc)) ∧
      (W.cell? ⟨w.heap.size + 2, 0, none⟩ = some (.int .i64 kind) ∧ W.cell? ⟨w.heap.size + 2, 1, none⟩ = some (.int .i64 n) ∧ W.cell? ⟨w.heap.size + 2, 2, none⟩ = some (.string of) ∧ W.cell? ⟨w.heap.size + 2, 3, none⟩ = some (.string s) ∧ W.cell? ⟨w.heap.size + 2, 4, none⟩ = some (.slice ao alen acap)) := fun W h => three h
  have hal2 := hal
  have hpl := hf.2.1
  have hvl := hu.1.2.1
  have hul := hu.1.2.2.1
  have hfl := hu.1.2.2.2
  obtain ⟨w3, ew⟩ : ∃ w3, w3 = (((w.alloc (.cells #[.string u.name, .slice u.va u.vl u.vc, .slice u.aa u.al u.ac, .slice u.fa u.fl u.fc] 38)).alloc (.cells #[.string f.name, .bool f.op, .slice f.pa f.pl f.pc, .slice f.ba f.bl f.bc] 52)).alloc (.cells #[.int .i64 kind, .int .i64 n, .string of, .string s, .slice ao alen acap] 85)) := ⟨_, rfl⟩
  rw [← ew] at hb3 bx
  have EW : Hid ((((w.alloc (.cells #[.string u.name, .slice u.va u.vl u.vc, .slice u.aa u.al u.ac, .slice u.fa u.fl u.fc] 38)).alloc (.cells #[.string f.name, .bool f.op, .slice f.pa f.pl f.pc, .slice f.ba f.bl f.bc] 52)).alloc (.cells #[.int .i64 kind, .int .i64 n, .string of, .string s, .slice ao alen acap] 85)) = w3) := ew.symm
  have HB3 : Hid _ := hb3
  have BX : Hid _ := bx
  have K33 : Hid _ := h33
  have HE : Hid (ERow w ao alen E d) := hE
  unfold maxLen at hal2
  have hI : (alen : Int) ≤ 9223372036854775807 := by omega
  clear bx hb3 h33 hE hu hf hal hal2 ew hpl hvl hul hfl
  go_enter Try.func47, Try.ntmps47
  go_wp2
  rw [EW.out]
  go_loopw [12] (fun i wr => ∃ k : Nat, k ≤ alen ∧ i = .int .i64 k ∧ first G k = 0 ∧ Below w3.heap.size w3 wr) (fun i _ => alen - (intOf i).toNat)
  case atStart => exact ⟨0, Nat.zero_le _, rfl, rfl, Below.refl _ _⟩
  case round =>
    obtain ⟨k, hk, rfl, hfk, hbel⟩ := hrel
    have FK : Hid (first G k = 0) := hfk
    have HB : Hid _ := hbel
    have hup := HB3.out.trans (hbel.mono HB3.out.size)
    have UP : Hid _ := hup
    clear hfk
    by_cases hkn : k < alen
    · obtain ⟨⟨bl, off, ea, t0, t1, t2, t3, t4⟩, _, _⟩ := ERow_below hup HE.out k hkn
      have hkI : (k : Int) < alen := by omega
      have kk := fun W h => K33.out k W hkn h
      obtain ⟨r, er⟩ : ∃ r, r = G k := ⟨_, rfl⟩
      rw [← er] at kk
      generalize E k [] = y at kk t0 t1 t2 t3 t4
      obtain ⟨⟨a0, a1, a2, a3⟩, ⟨b0, b1, b2, b3⟩, ⟨c0, c1, c2, c3, c4⟩⟩ := BX.out wr hbel
      obtain ⟨yk, yn, yof, ys, yao, yl, yc⟩ := y
      subst ea
      dsimp only at kk t0 t1 t2 t3 t4
      have KK : Hid _ := kk
      clear kk K33 HE hbel hup
      by_cases hr : r = 0
      · subst hr
        have EK : Hid (G k = 0) := er.symm
        clear er
        go_wp2
        go_region_law (go_simp; go_at_call 47; refine (KK.out _ (by exact UP.out.drew)).mono ?_; rintro e w9 ⟨rfl, hb9⟩; have HB9 : Hid (Below w3.heap.size w3 w9) := HB.out.drew.trans (hb9.mono HB.out.size); clear hb9)
        all_goals
          go_wp2
          go_roundw
          case rel => exact ⟨k + 1, by omega, by go_num, by rw [first_succ FK.out]; exact EK.out, HB9.out⟩
          case measure => simp [intOf]; omega
      · have hr2 : (r == 0) = false := beq_eq_false_iff_ne.2 hr
        have EK : Hid (first G alen = r) := (first_stops hkn FK.out (by rw [← er]; exact hr)).trans er.symm
        clear er hr
        go_wp2
        go_region_law (go_simp; go_at_call 47; refine (KK.out _ (by exact UP.out.drew)).mono ?_; rintro e w9 ⟨rfl, hb9⟩; have HB9 : Hid (Below w.heap.size w w9) := UP.out.drew.trans (hb9.mono UP.out.size); clear hb9)
        all_goals
          go_wp2
          go_ret
          exact ⟨by rw [EK.out]; rfl, HB9.out⟩
    · obtain rfl : k = alen := by omega
      have c4 := (BX.out wr hbel).2.2.2.2.2.2
      clear K33 HE hbel hup
      go_wp2
      go_ret
      exact ⟨by rw [FK.out]; rfl, UP.out⟩
end Go.Proofs.Ytalnfnkpemojhaa.NRefO5
