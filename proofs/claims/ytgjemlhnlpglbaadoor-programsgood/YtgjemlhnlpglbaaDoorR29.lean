/-
  WHAT THE CLOSURE OF names.scopeOf GIVES: the function that is asked, of one's own unit or of another.
  Conditions: the units lie there.
-/
import Derived.Test.YtgjemlhnlpglbaaDoorR28
namespace Go.Proofs.YtgjemlhnlpglbaaDoor.NAsk
open Go.RowKit NPlace NPlain NUnits NLists Go.Proofs.YtgjemlhnlpglbaaDoor.Ident Trees NSense NScope

theorem cell_of_heap {w : World} {g i : Nat} {cs : Array Value} {t : TypeId} {v : Value} (h : w.heap[g]? = some (.cells cs t)) (hv : cs[i]? = some v) : w.cell? ⟨g, i, none⟩ = some v := by
  simp [World.cell?, h, hv]

theorem past {w : World} {b i : Nat} {v : Value} (h : w.cell? ⟨b, i, none⟩ = some v) (o : Obj) : (w.alloc o).cell? ⟨b, i, none⟩ = some v := (World.cell?_alloc_past o _ _ (World.block_lt_of_cell? w _ h)).trans h

theorem frozen_past {w : World} {b i : Nat} (h : b < w.heap.size) (hz : w.frozen? ⟨b, i, none⟩ = false) (o : Obj) : (w.alloc o).frozen? ⟨b, i, none⟩ = false :=
  (World.frozen?_of_block (w := w) (a := ⟨b, i, none⟩) (Below.heap_alloc w o b h)).trans hz

theorem below4 {w0 w : World} {B b : Nat} (h : Below B w0 w) (u0 u1 u2 u3 : Value) (hb : B ≤ b := by exact Nat.le_refl _) : Below B w0 ((((w.setCell ⟨b, 0, none⟩ u0).setCell ⟨b, 1, none⟩ u1).setCell ⟨b, 2, none⟩ u2).setCell ⟨b, 3, none⟩ u3) :=
  (((h.setCell (p := ⟨b, 0, none⟩) hb _).setCell (p := ⟨b, 1, none⟩) hb _).setCell (p := ⟨b, 2, none⟩) hb _).setCell (p := ⟨b, 3, none⟩) hb _

set_option maxHeartbeats 1000000 in
theorem own_ (w : World) (ub pb len : Nat) (U : Nat → UnitD) (u : UnitD) (of s : ByteArray) (hc : w.cell? ⟨ub, 0, none⟩ = some (.string u.name) ∧ w.cell? ⟨ub, 1, none⟩ = some (.slice u.va u.vl u.vc) ∧ w.cell? ⟨ub, 2, none⟩ = some (.slice u.aa u.al u.ac) ∧ w.cell? ⟨ub, 3, none⟩ = some (.slice u.fa u.fl u.fc)) (hu : UnitLies w u) (ho : (of.toList == []) = true) :
    Calls Tryd.prog 63 #[.string of, .string s, .pointer (some ⟨ub, 0, none⟩), .pointer (some ⟨pb, 0, none⟩)] w fun e w' => (∃ (g : FuncD) (b : Bool), e = .returned (.tuple #[.agg #[.string g.name, .bool g.op, .slice g.pa g.pl g.pc, .slice g.ba g.bl g.bc], .bool b]) ∧ ((b = true ∧ asked len U u of s = some g) ∨ (b = false ∧ asked len U u of s = none))) ∧ Below w.heap.size w w' := by
  have EA : Hid (asked len U u of s = funcOf u s) := if_pos ho
  have k45 : ∀ W, Below w.heap.size w W → _ := fun W hb => func_of u s W (UnitLies_below hb hu)
  obtain ⟨c0, c1, c2, c3⟩ := hc
  have hb1 : Below w.heap.size w (w.alloc (.cells #[.string ⟨#[]⟩, .bool false, .slice none 0 0, .slice none 0 0] 37)) := (Below.refl _ _).alloc (Nat.le_refl _) _
  have hg1 : (w.alloc (.cells #[.string ⟨#[]⟩, .bool false, .slice none 0 0, .slice none 0 0] 37)).heap[w.heap.size]? = some (.cells #[.string ⟨#[]⟩, .bool false, .slice none 0 0, .slice none 0 0] 37) := heap_alloc_new _ _
  have hs1 : w.heap.size < (w.alloc (.cells #[.string ⟨#[]⟩, .bool false, .slice none 0 0, .slice none 0 0] 37)).heap.size := by simp
  have d0 := past c0 (.cells #[.string ⟨#[]⟩, .bool false, .slice none 0 0, .slice none 0 0] 37)
  have d1 := past c1 (.cells #[.string ⟨#[]⟩, .bool false, .slice none 0 0, .slice none 0 0] 37)
  have d2 := past c2 (.cells #[.string ⟨#[]⟩, .bool false, .slice none 0 0, .slice none 0 0] 37)
  have d3 := past c3 (.cells #[.string ⟨#[]⟩, .bool false, .slice none 0 0, .slice none 0 0] 37)
  have K45 : Hid _ := k45
  have HB0 : Hid _ := hb1
  have HG0 : Hid _ := hg1
  have HS0 : Hid _ := hs1
  clear hu k45 hb1 hg1 hs1 c0 c1 c2 c3
  go_enter Tryd.func63, Tryd.ntmps63
  go_wp2_with (first
    | (go_at_call 64; refine (K45.out _ HB0.out).mono ?_; rintro e w1 ⟨⟨g, b, rfl, hgb⟩, hb2⟩; have HGB : Hid _ := hgb; have hg2 := (hb2.block _ HS0.out).trans HG0.out; have HG1 : Hid _ := hg2; have HB2 : Hid _ := hb2; clear hgb hb2 hg2 d0 d1 d2 d3)
    | ((with_reducible show wpList _ _ _ ({ dst := none, op := Op.store 37 _ _, type := _, pos := _, after := _, guard := _ } :: _) _ _); refine wpList_store_row rfl 37 _ _ rfl w.heap.size #[.string g.name, .bool g.op, .slice g.pa g.pl g.pc, .slice g.ba g.bl g.bc] rfl rfl 37 _ HG1.out sizeFunc rfl (by simp [Value.oneCell']) ?_))
  refine bodyPost_ret (pair results44 _ _ w.heap.size #[.string g.name, .bool g.op, .slice g.pa g.pl g.pc, .slice g.ba g.bl g.bc] 37 (0, 0) _ rfl rfl (setRow_heap _ _ _ _ _ _ HG1.out) rfl) rfl ⟨⟨g, b, rfl, ?_⟩, below_row (HB0.out.trans (HB2.out.mono HB0.out.size)) (Nat.le_refl _) _⟩
  rw [EA.out]
  rcases HGB.out with ⟨h, h'⟩ | ⟨h, h', _⟩
  · exact .inl ⟨h, h'⟩
  · exact .inr ⟨h, h'⟩

set_option maxHeartbeats 1000000 in
theorem no_unit (w : World) (ub pb len pcap : Nat) (pa : Option Addr) (U : Nat → UnitD) (u : UnitD) (of s : ByteArray) (hl : len ≤ maxLen) (hp : w.cell? ⟨pb, 0, none⟩ = some (.slice pa len pcap)) (hU : URow w pa len U) (ho : (of.toList == []) = false) (hn : placeFrom (unitNames U) of 0 len = -1) :
    Calls Tryd.prog 63 #[.string of, .string s, .pointer (some ⟨ub, 0, none⟩), .pointer (some ⟨pb, 0, none⟩)] w fun e w' => (∃ (g : FuncD) (b : Bool), e = .returned (.tuple #[.agg #[.string g.name, .bool g.op, .slice g.pa g.pl g.pc, .slice g.ba g.bl g.bc], .bool b]) ∧ ((b = true ∧ asked len U u of s = some g) ∨ (b = false ∧ asked len U u of s = none))) ∧ Below w.heap.size w w' := by
  have EA : Hid (asked len U u of s = none) := by rw [asked, if_neg (by rw [ho]; decide), if_neg (by omega)]; exact (rfl : _ = _)
  have k46 : ∀ W, Below w.heap.size w W → _ := fun W hb => unit W len pcap pa (unitNames U) of hl (uheads (URow_below hb hU))
  rw [hn] at k46
  have hb1 : Below w.heap.size w (w.alloc (.cells #[.string ⟨#[]⟩, .bool false, .slice none 0 0, .slice none 0 0] 37)) := (Below.refl _ _).alloc (Nat.le_refl _) _
  have hg1 : (w.alloc (.cells #[.string ⟨#[]⟩, .bool false, .slice none 0 0, .slice none 0 0] 37)).heap[w.heap.size]? = some (.cells #[.string ⟨#[]⟩, .bool false, .slice none 0 0, .slice none 0 0] 37) := heap_alloc_new _ _
  have hs1 : w.heap.size < (w.alloc (.cells #[.string ⟨#[]⟩, .bool false, .slice none 0 0, .slice none 0 0] 37)).heap.size := by simp
  have d0 := past hp (.cells #[.string ⟨#[]⟩, .bool false, .slice none 0 0, .slice none 0 0] 37)
  have K46 : Hid _ := k46
  have HB0 : Hid _ := hb1
  have HG0 : Hid _ := hg1
  have HS0 : Hid _ := hs1
  clear hU k46 hb1 hg1 hs1 hp hl hn
  go_enter Tryd.func63, Tryd.ntmps63
  go_wp2_with (first
    | (go_at_call 22; refine (K46.out _ HB0.out).mono ?_; rintro e w1 ⟨rfl, hb2⟩; have hg2 := (hb2.block _ HS0.out).trans HG0.out; have HG1 : Hid _ := hg2; have HB2 : Hid _ := hb2; clear hb2 hg2 d0)
    | ((with_reducible show wpList _ _ _ ({ dst := none, op := Op.store 37 _ _, type := _, pos := _, after := _, guard := _ } :: _) _ _); refine wpList_store_row rfl 37 _ _ rfl w.heap.size #[.string ⟨#[]⟩, .bool false, .slice none 0 0, .slice none 0 0] rfl rfl 37 _ HG1.out sizeFunc rfl (by simp [Value.oneCell']) ?_))
  exact bodyPost_ret (pair results44 _ _ w.heap.size #[.string ⟨#[]⟩, .bool false, .slice none 0 0, .slice none 0 0] 37 (0, 0) _ rfl rfl (setRow_heap _ _ _ _ _ _ HG1.out) rfl) rfl ⟨⟨noFunc, false, rfl, .inr ⟨rfl, EA.out⟩⟩, below_row (HB0.out.trans (HB2.out.mono HB0.out.size)) (Nat.le_refl _) _⟩

set_option maxHeartbeats 2000000 in
theorem of_unit (w : World) (ub pb len pcap : Nat) (pa : Option Addr) (U : Nat → UnitD) (u : UnitD) (of s : ByteArray) (i : Nat) (hl : len ≤ maxLen) (hp : w.cell? ⟨pb, 0, none⟩ = some (.slice pa len pcap)) (hU : URow w pa len U) (ho : (of.toList == []) = false) (hn : placeFrom (unitNames U) of 0 len = i) (hi : i < len) :
    Calls Tryd.prog 63 #[.string of, .string s, .pointer (some ⟨ub, 0, none⟩), .pointer (some ⟨pb, 0, none⟩)] w fun e w' => (∃ (g : FuncD) (b : Bool), e = .returned (.tuple #[.agg #[.string g.name, .bool g.op, .slice g.pa g.pl g.pc, .slice g.ba g.bl g.bc], .bool b]) ∧ ((b = true ∧ asked len U u of s = some g) ∨ (b = false ∧ asked len U u of s = none))) ∧ Below w.heap.size w w' := by
  have EA : Hid (asked len U u of s = match funcOf (U i) s with | some g => if g.op = true then some g else none | none => none) := by rw [asked, if_neg (by rw [ho]; decide), if_pos (by omega), hn, Int.toNat_natCast]; exact (rfl : _ = _)
  have k46 : ∀ W, Below w.heap.size w W → _ := fun W hb => unit W len pcap pa (unitNames U) of hl (uheads (URow_below hb hU))
  rw [hn] at k46
  have k45 : ∀ W, Below w.heap.size w W → _ := fun W hb => func_of (U i) s W (UnitLies_below hb (hU i hi).2)
  have row : ∀ W, Below w.heap.size w W → _ := fun W hb => (URow_below hb hU i hi).1
  have hiI : (i : Int) < len := by omega
  unfold maxLen at hl
  have hlI : (len : Int) ≤ 9223372036854775807 := by omega
  have hb1 : Below w.heap.size w (w.alloc (.cells #[.string ⟨#[]⟩, .bool false, .slice none 0 0, .slice none 0 0] 37)) := (Below.refl _ _).alloc (Nat.le_refl _) _
  have hg1 : (w.alloc (.cells #[.string ⟨#[]⟩, .bool false, .slice none 0 0, .slice none 0 0] 37)).heap[w.heap.size]? = some (.cells #[.string ⟨#[]⟩, .bool false, .slice none 0 0, .slice none 0 0] 37) := heap_alloc_new _ _
  have hs1 : w.heap.size < (w.alloc (.cells #[.string ⟨#[]⟩, .bool false, .slice none 0 0, .slice none 0 0] 37)).heap.size := by simp
  have d0 := past hp (.cells #[.string ⟨#[]⟩, .bool false, .slice none 0 0, .slice none 0 0] 37)
  generalize funcOf (U i) s = fo at k45 EA
  generalize U i = v at k45 row
  obtain ⟨name, va, vl, vc, vs, aa, al, ac, an, az, fa, fl, fc, fs⟩ := v
  dsimp only at *
  have K46 : Hid _ := k46
  have K45 : Hid _ := k45
  have ROW : Hid _ := row
  have HB0 : Hid _ := hb1
  have HG0 : Hid _ := hg1
  have HS0 : Hid _ := hs1
  have D0 : Hid _ := d0
  clear hU k46 k45 row hb1 hg1 hs1 hp hl hn hi
  go_enter Tryd.func63, Tryd.ntmps63
  go_wp2_with (first
    | (go_at_call 22; refine (K46.out _ HB0.out).mono ?_; rintro e w1 ⟨rfl, hb2⟩; have q0 := (hb2.cell (World.block_lt_of_cell? _ _ D0.out)).trans D0.out; have hg2 := (hb2.block _ HS0.out).trans HG0.out; have HG1 : Hid _ := hg2; have hb3 := HB0.out.trans (hb2.mono HB0.out.size); have HB3 : Hid _ := hb3; have hs2 := Nat.lt_of_lt_of_le HS0.out hb2.size; have HS1 : Hid _ := hs2; obtain ⟨bl, off, rfl, t0, t1, t2, t3⟩ := ROW.out _ hb3; clear hb2 hg2 hb3 hs2 d0)
    | (go_at_call 64; refine (K45.out _ HB3.out).mono ?_; rintro e w2 ⟨⟨g, b, rfl, hgb⟩, hb4⟩; have HGB : Hid _ := hgb; have hg3 := (hb4.block _ HS1.out).trans HG1.out; have HG2 : Hid _ := hg3; have hb5 := HB3.out.trans (hb4.mono HB3.out.size); have HB5 : Hid _ := hb5; have hs3 := Nat.lt_of_lt_of_le HS1.out hb4.size; have r0 := past (w := w2) (b := w.heap.size) (i := 0) (cell_of_heap hg3 rfl); have r1 := past (w := w2) (b := w.heap.size) (i := 1) (cell_of_heap hg3 rfl); have r2 := past (w := w2) (b := w.heap.size) (i := 2) (cell_of_heap hg3 rfl); have r3 := past (w := w2) (b := w.heap.size) (i := 3) (cell_of_heap hg3 rfl); have z0 := frozen_past hs3 (frozen_of_row w2 w.heap.size 0 _ 37 hg3); have z1 := frozen_past hs3 (frozen_of_row w2 w.heap.size 1 _ 37 hg3); have z2 := frozen_past hs3 (frozen_of_row w2 w.heap.size 2 _ 37 hg3); have z3 := frozen_past hs3 (frozen_of_row w2 w.heap.size 3 _ 37 hg3); have hne : w2.heap.size ≠ w.heap.size := (by omega); have hne2 : w.heap.size ≠ w2.heap.size := (by omega); have HS3 : Hid _ := hs3; clear hgb hb4 hg3 hb5 hs3 q0 t0 t1 t2 t3; cases b))
  · go_region
    go_wp2
    refine bodyPost_ret (v := .tuple #[.agg #[.string g.name, .bool g.op, .slice g.pa g.pl g.pc, .slice g.ba g.bl g.bc], .bool false]) (by simp [results, Tryd.results63, go_sem, *]) rfl ⟨⟨g, false, rfl, .inr ⟨rfl, ?_⟩⟩, ?_⟩
    · rw [EA.out]
      rcases HGB.out with ⟨h, _⟩ | ⟨_, h, _⟩
      · cases h
      · rw [h]
    · exact below4 ((HB5.out.alloc HB5.out.size _).drew) _ _ _ _
  · go_region
    go_wp2
    refine bodyPost_ret (v := .tuple #[.agg #[.string g.name, .bool g.op, .slice g.pa g.pl g.pc, .slice g.ba g.bl g.bc], .bool g.op]) (by simp [results, Tryd.results63, go_sem, *]) rfl ⟨⟨g, g.op, rfl, ?_⟩, ?_⟩
    · rw [EA.out]
      rcases HGB.out with ⟨_, h⟩ | ⟨h, _⟩
      · rw [h]
        by_cases hop : g.op = true
        · exact .inl ⟨hop, if_pos hop⟩
        · exact .inr ⟨by simpa using hop, if_neg hop⟩
      · cases h
    · exact below4 ((HB5.out.alloc HB5.out.size _).drew) _ _ _ _

/-- in every case -/
theorem ask (w : World) (ub pb len pcap : Nat) (pa : Option Addr) (U : Nat → UnitD) (u : UnitD) (of s : ByteArray) (hl : len ≤ maxLen) (hc : w.cell? ⟨ub, 0, none⟩ = some (.string u.name) ∧ w.cell? ⟨ub, 1, none⟩ = some (.slice u.va u.vl u.vc) ∧ w.cell? ⟨ub, 2, none⟩ = some (.slice u.aa u.al u.ac) ∧ w.cell? ⟨ub, 3, none⟩ = some (.slice u.fa u.fl u.fc)) (hu : UnitLies w u) (hp : w.cell? ⟨pb, 0, none⟩ = some (.slice pa len pcap)) (hU : URow w pa len U) :
    Calls Tryd.prog 63 #[.string of, .string s, .pointer (some ⟨ub, 0, none⟩), .pointer (some ⟨pb, 0, none⟩)] w fun e w' => (∃ (g : FuncD) (b : Bool), e = .returned (.tuple #[.agg #[.string g.name, .bool g.op, .slice g.pa g.pl g.pc, .slice g.ba g.bl g.bc], .bool b]) ∧ ((b = true ∧ asked len U u of s = some g) ∨ (b = false ∧ asked len U u of s = none))) ∧ Below w.heap.size w w' := by
  rcases Bool.eq_false_or_eq_true (of.toList == []) with ho | ho
  · exact own_ w ub pb len U u of s hc hu ho
  · rcases place_range (unitNames U) of len 0 with h | ⟨h0, h1⟩
    · exact no_unit w ub pb len pcap pa U u of s hl hp hU ho h
    · obtain ⟨i, hi⟩ : ∃ i : Nat, placeFrom (unitNames U) of 0 len = i := ⟨(placeFrom (unitNames U) of 0 len).toNat, by omega⟩
      exact of_unit w ub pb len pcap pa U u of s i hl hp hU ho hi (by omega)
end Go.Proofs.YtgjemlhnlpglbaaDoor.NAsk
