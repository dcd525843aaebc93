/-
  THE DOCUMENT's exprSense, OF WHAT ASKS A FUNCTION.
  Conditions: the units, the function and the expression's Args lie there.
-/
import Derived.Test.YtalnfnkpemojhaaQ18
namespace Go.Proofs.Ytalnfnkpemojhaa.NRefB4
open Go.RowKit NPlace NPlain NUnits NLists NFind Go.Proofs.Ytalnfnkpemojhaa.Ident Trees Forms NSense NScope NAsk NRefBase

theorem sizeUnit : (Try.prog.info? 38).map (·.size) = some 4 := by kernel_rfl

set_option maxHeartbeats 4000000 in
theorem of_ok (w : World) (len pcap : Nat) (pa : Option Addr) (U : Nat → UnitD) (u : UnitD) (f : FuncD) (n : Int) (of s : ByteArray) (ao : Option Addr) (alen acap : Nat) (E : Nat → ETree) (d : Nat) (G : Nat → Int)
    (hl : len ≤ maxLen) (hU : URow w pa len U) (hu : UnitLies w u) (hf : FuncLies w f) (hal : alen ≤ maxLen) (hE : ERow w ao alen E d)
    (h33 : ∀ (k : Nat) (W : World), k < alen → Below w.heap.size w W → Calls Try.prog 47 #[.slice pa len pcap, .agg #[.string u.name, .slice u.va u.vl u.vc, .slice u.aa u.al u.ac, .slice u.fa u.fl u.fc], .agg #[.string f.name, .bool f.op, .slice f.pa f.pl f.pc, .slice f.ba f.bl f.bc], .agg #[.int .i64 (E k []).kind, .int .i64 (E k []).n, .string (E k []).of, .string (E k []).s, .slice (E k []).ao (E k []).len (E k []).cap]] W fun e w' => e = .returned (.int .i64 (G k)) ∧ Below W.heap.size W w') (ho : (of.toList == []) = false) (i : Nat) (hn : placeFrom (unitNames U) of 0 len = i) (hi : i < len) (v : UnitD) (hv0 : U i = v) (k : Nat) (hk : placeFrom (funcNames v) s 0 v.fl = k) (hkf : k < v.fl) (g : FuncD) (hg : v.fs k = g) (hgl : g.pl ≤ maxLen) (hop : g.op = true) (heq : g.pl = alen) :
    Calls Try.prog 47 #[.slice pa len pcap, .agg #[.string u.name, .slice u.va u.vl u.vc, .slice u.aa u.al u.ac, .slice u.fa u.fl u.fc], .agg #[.string f.name, .bool f.op, .slice f.pa f.pl f.pc, .slice f.ba f.bl f.bc], .agg #[.int .i64 4, .int .i64 n, .string of, .string s, .slice ao alen acap]] w fun e w' => e = .returned (.int .i64 (first G alen)) ∧ Below w.heap.size w w' := by
  have hb3 : Below w.heap.size w (((w.alloc (.cells #[.string u.name, .slice u.va u.vl u.vc, .slice u.aa u.al u.ac, .slice u.fa u.fl u.fc] 38)).alloc (.cells #[.string f.name, .bool f.op, .slice f.pa f.pl f.pc, .slice f.ba f.bl f.bc] 52)).alloc (.cells #[.int .i64 4, .int .i64 n, .string of, .string s, .slice ao alen acap] 85)) := (below2 w _ _).alloc (below2 w _ _).size _
  have bx : ∀ W, Below (((w.alloc (.cells #[.string u.name, .slice u.va u.vl u.vc, .slice u.aa u.al u.ac, .slice u.fa u.fl u.fc] 38)).alloc (.cells #[.string f.name, .bool f.op, .slice f.pa f.pl f.pc, .slice f.ba f.bl f.bc] 52)).alloc (.cells #[.int .i64 4, .int .i64 n, .string of, .string s, .slice ao alen acap] 85)).heap.size (((w.alloc (.cells #[.string u.name, .slice u.va u.vl u.vc, .slice u.aa u.al u.ac, .slice u.fa u.fl u.fc] 38)).alloc (.cells #[.string f.name, .bool f.op, .slice f.pa f.pl f.pc, .slice f.ba f.bl f.bc] 52)).alloc (.cells #[.int .i64 4, .int .i64 n, .string of, .string s, .slice ao alen acap] 85)) W → (W.cell? ⟨w.heap.size, 0, none⟩ = some (.string u.name) ∧ W.cell? ⟨w.heap.size, 1, none⟩ = some (.slice u.va u.vl u.vc) ∧ W.cell? ⟨w.heap.size, 2, none⟩ = some (.slice u.aa u.al u.ac) ∧ W.cell? ⟨w.heap.size, 3, none⟩ = some (.slice u.fa u.fl u.fc)) ∧
      (W.cell? ⟨w.heap.size + 1, 0, none⟩ = some (.string f.name) ∧ W.cell? ⟨w.heap.size + 1, 1, none⟩ = some (.bool f.op) ∧ W.cell? ⟨w.heap.size + 1, 2, none⟩ = some (.slice f.pa f.pl f.pc) ∧ W.cell? ⟨w.heap.size + 1, 3, none⟩ = some (.slice f.ba f.bl f.bc)) ∧
      (W.cell? ⟨w.heap.size + 2, 0, none⟩ = some (.int .i64 4) ∧ W.cell? ⟨w.heap.size + 2, 1, none⟩ = some (.int .i64 n) ∧ W.cell? ⟨w.heap.size + 2, 2, none⟩ = some (.string of) ∧ W.cell? ⟨w.heap.size + 2, 3, none⟩ = some (.string s) ∧ W.cell? ⟨w.heap.size + 2, 4, none⟩ = some (.slice ao alen acap)) := fun W h => three h
  have hal2 := hal
  have hpl := hf.2.1
  have hvl := hu.1.2.1
  have hul := hu.1.2.2.1
  have hfl := hu.1.2.2.2
  obtain ⟨w3, ew⟩ : ∃ w3, w3 = (((w.alloc (.cells #[.string u.name, .slice u.va u.vl u.vc, .slice u.aa u.al u.ac, .slice u.fa u.fl u.fc] 38)).alloc (.cells #[.string f.name, .bool f.op, .slice f.pa f.pl f.pc, .slice f.ba f.bl f.bc] 52)).alloc (.cells #[.int .i64 4, .int .i64 n, .string of, .string s, .slice ao alen acap] 85)) := ⟨_, rfl⟩
  rw [← ew] at hb3 bx
  have EW : Hid ((((w.alloc (.cells #[.string u.name, .slice u.va u.vl u.vc, .slice u.aa u.al u.ac, .slice u.fa u.fl u.fc] 38)).alloc (.cells #[.string f.name, .bool f.op, .slice f.pa f.pl f.pc, .slice f.ba f.bl f.bc] 52)).alloc (.cells #[.int .i64 4, .int .i64 n, .string of, .string s, .slice ao alen acap] 85)) = w3) := ew.symm
  have HB3 : Hid _ := hb3
  have BX : Hid _ := bx
  have K33 : Hid _ := h33
  have HE : Hid (ERow w ao alen E d) := hE
  unfold maxLen at hal2
  have hI : (alen : Int) ≤ 9223372036854775807 := by omega
  have hb4 : Below w3.heap.size w3 (w3.alloc (.cells #[.string u.name, .slice u.va u.vl u.vc, .slice u.aa u.al u.ac, .slice u.fa u.fl u.fc] 38)) := (Below.refl _ _).alloc (Nat.le_refl _) _
  have hz3 : w3.heap.size = w.heap.size + 3 := by rw [ew]; simp
  have to : ∀ W, Below (w3.alloc (.cells #[.string u.name, .slice u.va u.vl u.vc, .slice u.aa u.al u.ac, .slice u.fa u.fl u.fc] 38)).heap.size (w3.alloc (.cells #[.string u.name, .slice u.va u.vl u.vc, .slice u.aa u.al u.ac, .slice u.fa u.fl u.fc] 38)) W → W.heap[w.heap.size + 1 + 1 + 1]? = some (.cells #[.string u.name, .slice u.va u.vl u.vc, .slice u.aa u.al u.ac, .slice u.fa u.fl u.fc] 38) := fun W h => by
    rw [show w.heap.size + 1 + 1 + 1 = w3.heap.size from hz3.symm]
    exact (h.block _ (by simp)).trans (heap_alloc_new _ _)
  have TO : Hid _ := to
  have HB4 : Hid _ := hb4
  have HZ3 : Hid _ := hz3
  have ku : ∀ W, Below w.heap.size w W → _ := fun W hb => unitAt W len pcap pa (unitNames U) of hl (uheads (URow_below hb hU))
  rw [hn] at ku
  have KU : Hid _ := ku
  have hv : UnitLies w v := by rw [← hv0]; exact (hU i hi).2
  have urow : ∀ W, Below w.heap.size w W → ∃ bl off, pa = some ⟨bl, off, none⟩ ∧ W.cell? ⟨bl, off + i * 4, none⟩ = some (.string v.name) ∧ W.cell? ⟨bl, off + i * 4 + 1, none⟩ = some (.slice v.va v.vl v.vc) ∧ W.cell? ⟨bl, off + i * 4 + 2, none⟩ = some (.slice v.aa v.al v.ac) ∧ W.cell? ⟨bl, off + i * 4 + 3, none⟩ = some (.slice v.fa v.fl v.fc) := fun W hb => by
    have h := (URow_below hb hU i hi).1
    rw [hv0] at h
    exact h
  have UROW : Hid _ := urow
  have hiI : (i : Int) < len := by omega
  have hvfl := hv.1.2.2.2
  unfold maxLen at hl hvfl
  have hlI : (len : Int) ≤ 9223372036854775807 := by omega
  have hvI : (v.fl : Int) ≤ 9223372036854775807 := by omega
  have kf : ∀ W, Below w.heap.size w W → _ := fun W hb => funcAt W v.fl v.fc v.fa (funcNames v) s hv.1.2.2.2 (heads (FRow_below hb hv.2.2.2)) (.string v.name) (.slice v.va v.vl v.vc) (.slice v.aa v.al v.ac)
  rw [hk] at kf
  have KF : Hid _ := kf
  have row : ∀ W, Below w.heap.size w W → ∃ bl off, v.fa = some ⟨bl, off, none⟩ ∧ W.cell? ⟨bl, off + k * 4, none⟩ = some (.string g.name) ∧ W.cell? ⟨bl, off + k * 4 + 1, none⟩ = some (.bool g.op) ∧ W.cell? ⟨bl, off + k * 4 + 2, none⟩ = some (.slice g.pa g.pl g.pc) ∧ W.cell? ⟨bl, off + k * 4 + 3, none⟩ = some (.slice g.ba g.bl g.bc) := fun W hb => by
    have h := (FRow_below hb hv.2.2.2 k hkf).1
    rw [hg] at h
    exact h
  have ROW : Hid _ := row
  have hkI : (k : Int) < v.fl := by omega
  unfold maxLen at hgl
  have hgI : (g.pl : Int) ≤ 9223372036854775807 := by omega
  subst heq
  clear bx hb3 h33 hE hU hu hf hl hal hal2 ew hb4 hz3 to ku hn hpl hvl hul hfl urow kf hi hv0 hv hvfl row hkf hg
  go_enter Try.func47, Try.ntmps47
  go_wp2_with (first
    | (go_at_call 67; rw [EW.out]; refine (KU.out _ (HB3.out.trans (HB4.out.mono HB3.out.size))).mono ?_; rintro e w5 ⟨rfl, hb5⟩; have hb6 : Below w3.heap.size w3 w5 := HB4.out.trans (hb5.mono HB4.out.size); obtain ⟨⟨a0, a1, a2, a3⟩, ⟨b0, b1, b2, b3⟩, ⟨c0, c1, c2, c3, c4⟩⟩ := BX.out _ hb6; have HG5 : Hid _ := TO.out _ hb5; have HB6 : Hid _ := hb6; obtain ⟨bu, ou, rfl, u0, u1, u2, u3⟩ := UROW.out _ (HB3.out.trans (hb6.mono HB3.out.size)); clear hb5 hb6)
    | ((with_reducible show wpList _ _ _ ({ dst := none, op := Op.store 38 _ _, type := _, pos := _, after := _, guard := _ } :: _) _ w5); refine wpList_store_row rfl 38 _ _ rfl (w.heap.size + 1 + 1 + 1) #[.string v.name, .slice v.va v.vl v.vc, .slice v.aa v.al v.ac, .slice v.fa v.fl v.fc] rfl rfl 38 _ HG5.out sizeUnit rfl (by simp [Value.oneCell']) ?_; have hg6 : (w5.setRow (w.heap.size + 1 + 1 + 1) #[.string v.name, .slice v.va v.vl v.vc, .slice v.aa v.al v.ac, .slice v.fa v.fl v.fc]).heap[w.heap.size + 1 + 1 + 1]? = some (.cells #[.string v.name, .slice v.va v.vl v.vc, .slice v.aa v.al v.ac, .slice v.fa v.fl v.fc] 38 (0, 0)) := setRow_heap _ _ _ _ _ _ HG5.out; have hb7 : Below w3.heap.size w3 (w5.setRow (w.heap.size + 1 + 1 + 1) #[.string v.name, .slice v.va v.vl v.vc, .slice v.aa v.al v.ac, .slice v.fa v.fl v.fc]) := below_row HB6.out (Nat.le_of_eq HZ3.out) _; obtain ⟨w6, e6⟩ : ∃ x, x = w5.setRow (w.heap.size + 1 + 1 + 1) #[.string v.name, .slice v.va v.vl v.vc, .slice v.aa v.al v.ac, .slice v.fa v.fl v.fc] := ⟨_, rfl⟩; rw [← e6] at hg6 hb7 ⊢; clear e6 a0 a1 a2 a3 b0 b1 b2 b3 c0 c1 c2 c3 c4 u0 u1 u2 u3; obtain ⟨⟨a0, a1, a2, a3⟩, ⟨b0, b1, b2, b3⟩, ⟨c0, c1, c2, c3, c4⟩⟩ := BX.out _ hb7; have g0 := cell_of_heap (i := 0) hg6 rfl; have g1 := cell_of_heap (i := 1) hg6 rfl; have g2 := cell_of_heap (i := 2) hg6 rfl; have g3 := cell_of_heap (i := 3) hg6 rfl; have HB7 : Hid _ := hb7; have HG6 : Hid _ := hg6; clear hg6 hb7)
    | (go_at_call 68; refine (KF.out _ (HB3.out.trans (HB7.out.mono HB3.out.size))).mono ?_; rintro e w7 ⟨rfl, hb8⟩; have hb9 : Below w3.heap.size w3 w7 := HB7.out.trans (hb8.mono HB7.out.size); clear a0 a1 a2 a3 b0 b1 b2 b3 c0 c1 c2 c3 c4 g0 g1 g2 g3; obtain ⟨⟨a0, a1, a2, a3⟩, ⟨b0, b1, b2, b3⟩, ⟨c0, c1, c2, c3, c4⟩⟩ := BX.out _ hb9; have d3 : w7.cell? ⟨w.heap.size + 3, 3, none⟩ = some (.slice v.fa v.fl v.fc) := cell_of_heap ((hb8.block _ (Array.getElem?_eq_some_iff.1 HG6.out).1).trans HG6.out) rfl; have HB9 : Hid _ := hb9; obtain ⟨bl, off, efa, r0, r1, r2, r3⟩ := ROW.out _ (HB3.out.trans (hb9.mono HB3.out.size)); rw [efa] at d3; rw [hop] at r1; clear hb8 hb9))
  go_quiet (fail)
  go_wp2
  clear a0 a1 a2 a3 b0 b1 b2 b3 c0 c1 c2 c3 c4 d3 r0 r1 r2 r3 efa ROW UROW
  go_loopw [12] (fun i wr => ∃ k : Nat, k ≤ g.pl ∧ i = .int .i64 k ∧ first G k = 0 ∧ Below w3.heap.size w3 wr) (fun i _ => g.pl - (intOf i).toNat)
  case atStart => exact ⟨0, Nat.zero_le _, rfl, rfl, ⟨HB9.out.os, HB9.out.tape, HB9.out.output, HB9.out.size, HB9.out.block⟩⟩
  case round =>
    obtain ⟨k, hk, rfl, hfk, hbel⟩ := hrel
    have FK : Hid (first G k = 0) := hfk
    have HB : Hid _ := hbel
    have hup := HB3.out.trans (hbel.mono HB3.out.size)
    have UP : Hid _ := hup
    clear hfk
    by_cases hkn : k < g.pl
    · obtain ⟨⟨bl, off, ea, t0, t1, t2, t3, t4⟩, _, _⟩ := ERow_below hup HE.out k hkn
      have hkI : (k : Int) < g.pl := by omega
      have kk := fun W h => K33.out k W hkn h
      obtain ⟨r, er⟩ : ∃ r, r = G k := ⟨_, rfl⟩
      rw [← er] at kk
      generalize E k [] = y at kk t0 t1 t2 t3 t4
      obtain ⟨⟨a0, a1, a2, a3⟩, ⟨b0, b1, b2, b3⟩, ⟨c0, c1, c2, c3, c4⟩⟩ := BX.out wr hbel
      obtain ⟨yk, yn, yof, ys, yao, yl, yc⟩ := y
      subst ea
      dsimp only at kk t0 t1 t2 t3 t4
      have KK : Hid _ := kk
      clear kk K33 HE hbel hup
      by_cases hr : r = 0
      · subst hr
        have EK : Hid (G k = 0) := er.symm
        clear er
        go_wp2
        go_region_law (go_simp; go_at_call 47; refine (KK.out _ (by exact UP.out.drew)).mono ?_; rintro e w9 ⟨rfl, hb9⟩; have HB9 : Hid (Below w3.heap.size w3 w9) := HB.out.drew.trans (hb9.mono HB.out.size); clear hb9)
        all_goals
          go_wp2
          go_roundw
          case rel => exact ⟨k + 1, by omega, by go_num, by rw [first_succ FK.out]; exact EK.out, HB9.out⟩
          case measure => simp [intOf]; omega
      · have hr2 : (r == 0) = false := beq_eq_false_iff_ne.2 hr
        have EK : Hid (first G g.pl = r) := (first_stops hkn FK.out (by rw [← er]; exact hr)).trans er.symm
        clear er hr
        go_wp2
        go_region_law (go_simp; go_at_call 47; refine (KK.out _ (by exact UP.out.drew)).mono ?_; rintro e w9 ⟨rfl, hb9⟩; have HB9 : Hid (Below w.heap.size w w9) := UP.out.drew.trans (hb9.mono UP.out.size); clear hb9)
        all_goals
          go_wp2
          go_ret
          exact ⟨by rw [EK.out]; rfl, HB9.out⟩
    · obtain rfl : k = g.pl := by omega
      have c4 := (BX.out wr hbel).2.2.2.2.2.2
      clear K33 HE hbel hup
      go_wp2
      go_ret
      exact ⟨by rw [FK.out]; rfl, UP.out⟩
end Go.Proofs.Ytalnfnkpemojhaa.NRefB4
