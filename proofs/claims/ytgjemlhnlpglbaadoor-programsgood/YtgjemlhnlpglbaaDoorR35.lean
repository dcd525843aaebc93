/-
  WHAT names.scopeOf GIVES: functions that find what the names in a body stand for.
  Conditions: the units and the function lie there.
-/
import Derived.Test.YtgjemlhnlpglbaaDoorR30
import Derived.Test.YtgjemlhnlpglbaaDoorR34
import Derived.Test.YtgjemlhnlpglbaaDoorR31
import Derived.Deep.RegionHeld3
namespace Go.Proofs.YtgjemlhnlpglbaaDoor.NScopeOf
open Go.RowKit NPlace NPlain NUnits NLists Go.Proofs.YtgjemlhnlpglbaaDoor.Ident Trees Forms NSense NScope NAsk NBoth NNamed

theorem heap_get (w : World) (o : Obj) (i : Nat) : (w.alloc o).heap[i]? = if i = w.heap.size then some o else w.heap[i]? := by
  show (w.heap.push o)[i]? = _
  rw [Array.getElem?_push]
theorem size_at (w : World) (o : Obj) : (w.alloc o).heap.size = w.heap.size + 1 := by
  show (w.heap.push o).size = _
  rw [Array.size_push]

theorem store_one {P : Program} {w : World} {b i : Nat} {u : Value} (hc : w.cell? ⟨b, i, none⟩ = some u) (hf : w.frozen? ⟨b, i, none⟩ = false) (fn : Fn) (fi ca : Array Value) : (store ⟨b, i, none⟩ (.func fn fi ca)).run P w = .ok () (w.setCell ⟨b, i, none⟩ (.func fn fi ca)) := by
  rw [run_store P w _ _ _ rfl, hc]
  simp [hf]

theorem scope_stores {w : World} {b : Nat} {u0 u1 u2 : Value} (z0 : w.cell? ⟨b, 0, none⟩ = some u0) (z1 : w.cell? ⟨b, 1, none⟩ = some u1) (z2 : w.cell? ⟨b, 2, none⟩ = some u2) (f0 : w.frozen? ⟨b, 0, none⟩ = false) (f1 : w.frozen? ⟨b, 1, none⟩ = false) (f2 : w.frozen? ⟨b, 2, none⟩ = false) :
    (∀ fn fi ca, (store ⟨b, 0, none⟩ (.func fn fi ca)).run Tryd.prog w = .ok () (w.setCell ⟨b, 0, none⟩ (.func fn fi ca))) ∧
    (∀ v fn fi ca, (store ⟨b, 1, none⟩ (.func fn fi ca)).run Tryd.prog (w.setCell ⟨b, 0, none⟩ v) = .ok () ((w.setCell ⟨b, 0, none⟩ v).setCell ⟨b, 1, none⟩ (.func fn fi ca))) ∧
    (∀ v v' fn fi ca, (store ⟨b, 2, none⟩ (.func fn fi ca)).run Tryd.prog ((w.setCell ⟨b, 0, none⟩ v).setCell ⟨b, 1, none⟩ v') = .ok () (((w.setCell ⟨b, 0, none⟩ v).setCell ⟨b, 1, none⟩ v').setCell ⟨b, 2, none⟩ (.func fn fi ca))) := by
  have ne : ∀ i j : Nat, i ≠ j → (⟨b, i, none⟩ : Addr) ≠ ⟨b, j, none⟩ := fun i j h e => h (by injection e)
  refine ⟨fun fn fi ca => store_one z0 f0 fn fi ca, fun v fn fi ca => store_one (u := u1) ?_ ((World.frozen?_setCell _ _ _ _).trans f1) fn fi ca, fun v v' fn fi ca => store_one (u := u2) ?_ ((World.frozen?_setCell _ _ _ _).trans ((World.frozen?_setCell _ _ _ _).trans f2)) fn fi ca⟩
  · rw [World.cell?_setCell_other (h := ne 0 1 (by omega))]; exact z1
  · rw [World.cell?_setCell_other (h := ne 1 2 (by omega)), World.cell?_setCell_other (h := ne 0 2 (by omega))]; exact z2

theorem below3 {w0 w : World} {B b : Nat} (h : Below B w0 w) (hb : B ≤ b) (u0 u1 u2 : Value) : Below B w0 (((w.setCell ⟨b, 0, none⟩ u0).setCell ⟨b, 1, none⟩ u1).setCell ⟨b, 2, none⟩ u2) :=
  ((h.setCell (p := ⟨b, 0, none⟩) hb _).setCell (p := ⟨b, 1, none⟩) hb _).setCell (p := ⟨b, 2, none⟩) hb _

theorem off3 {w : World} {b c i : Nat} (h : c ≠ b) (u0 u1 u2 : Value) : (((w.setCell ⟨b, 0, none⟩ u0).setCell ⟨b, 1, none⟩ u1).setCell ⟨b, 2, none⟩ u2).cell? ⟨c, i, none⟩ = w.cell? ⟨c, i, none⟩ := by
  have ne : ∀ j, (⟨b, j, none⟩ : Addr) ≠ ⟨c, i, none⟩ := fun j e => h (by injection e with e1; exact e1.symm)
  rw [World.cell?_setCell_other (h := ne 2), World.cell?_setCell_other (h := ne 1), World.cell?_setCell_other (h := ne 0)]

theorem set3 {w : World} {b : Nat} {t : TypeId} {u0 u1 u2 v0 v1 v2 : Value} (hg : w.heap[b]? = some (.cells #[u0, u1, u2] t)) : ((w.setCell ⟨b, 0, none⟩ v0).setCell ⟨b, 1, none⟩ v1).setCell ⟨b, 2, none⟩ v2 = w.setRow b #[v0, v1, v2] := by
  rw [setCell_eq_setRow w b 0 _ _ _ v0 hg, setCell_eq_setRow _ b 1 _ _ _ v1 (setRow_heap w b _ _ t _ hg), setCell_eq_setRow _ b 2 _ _ _ v2 (setRow_heap _ b _ _ t _ (setRow_heap w b _ _ t _ hg)), setRow_setRow, setRow_setRow]
  rfl

theorem sizeScope : (Tryd.prog.info? 100).map (·.size) = some 3 := by kernel_rfl

/-- the scope, in the last world: all blocks but the result's read as they did -/
theorem finish {w w8 W : World} {len pcap : Nat} {pa : Option Addr} {U : Nat → UnitD} {u : UnitD} {f : FuncD} {b5 b6 ba bb b8 : Nat} (hl : len ≤ maxLen) (hU : URow w pa len U) (hu : UnitLies w u) (hf : FuncLies w f) (hpv : f.pl + u.vl ≤ maxLen)
    (hWb : Below w.heap.size w W) (z0 : w8.cell? ⟨w.heap.size + 1 + 1 + 1, 0, none⟩ = some .nilFunc) (z1 : w8.cell? ⟨w.heap.size + 1 + 1 + 1, 1, none⟩ = some .nilFunc) (z2 : w8.cell? ⟨w.heap.size + 1 + 1 + 1, 2, none⟩ = some .nilFunc)
    (hW : ∀ b i, b ≠ w.heap.size + 1 + 1 + 1 → W.cell? ⟨b, i, none⟩ = w8.cell? ⟨b, i, none⟩)
    (q5 : w8.cell? ⟨b5, 2, none⟩ = some (.slice f.pa f.pl f.pc)) (q6 : w8.cell? ⟨b6, 1, none⟩ = some (.slice u.va u.vl u.vc)) (q8 : w8.cell? ⟨b8, 2, none⟩ = some (.slice u.aa u.al u.ac))
    (a0 : w8.cell? ⟨ba, 0, none⟩ = some (.int .i64 f.pl)) (a1 : w8.cell? ⟨ba, 1, none⟩ = some (.func (.func 61) #[] #[.pointer (some ⟨b5, 0, none⟩)])) (b1 : w8.cell? ⟨bb, 1, none⟩ = some (.func (.func 58) #[] #[.pointer (some ⟨b6, 0, none⟩)]))
    (cp : w8.cell? ⟨w.heap.size, 0, none⟩ = some (.slice pa len pcap)) (cu : w8.cell? ⟨w.heap.size + 1, 0, none⟩ = some (.string u.name) ∧ w8.cell? ⟨w.heap.size + 1, 1, none⟩ = some (.slice u.va u.vl u.vc) ∧ w8.cell? ⟨w.heap.size + 1, 2, none⟩ = some (.slice u.aa u.al u.ac) ∧ w8.cell? ⟨w.heap.size + 1, 3, none⟩ = some (.slice u.fa u.fl u.fc)) :
    Scope W (.agg #[.int .i64 ((f.pl : Int) + u.vl), .func (.func 57) #[] #[.pointer (some ⟨ba, 0, none⟩), .pointer (some ⟨bb, 0, none⟩)]]) (.agg #[.int .i64 u.al, .func (.func 59) #[] #[.pointer (some ⟨b8, 0, none⟩)]]) (.pointer (some ⟨w.heap.size + 1, 0, none⟩)) (.pointer (some ⟨w.heap.size, 0, none⟩)) len U u f := by
  rw [show ((f.pl : Int) + u.vl) = ((f.pl + u.vl : Nat) : Int) by omega]
  have other : ∀ (b i : Nat) (v : Value), w8.cell? ⟨b, i, none⟩ = some v → (i = 0 ∨ i = 1 ∨ i = 2) → v ≠ .nilFunc → W.cell? ⟨b, i, none⟩ = some v := by
    intro b i v hv hi hn
    rw [hW b i ?_]
    · exact hv
    · rintro rfl
      rcases hi with rfl | rfl | rfl
      · rw [z0] at hv; injection hv with hv; exact hn hv.symm
      · rw [z1] at hv; injection hv with hv; exact hn hv.symm
      · rw [z2] at hv; injection hv with hv; exact hn hv.symm
  have q5' := other b5 2 _ q5 (by omega) (by simp)
  have q6' := other b6 1 _ q6 (by omega) (by simp)
  have q8' := other b8 2 _ q8 (by omega) (by simp)
  have a0' := other ba 0 _ a0 (by omega) (by simp)
  have a1' := other ba 1 _ a1 (by omega) (by simp)
  have b1' := other bb 1 _ b1 (by omega) (by simp)
  have cp' : W.cell? ⟨w.heap.size, 0, none⟩ = some (.slice pa len pcap) := (hW _ _ (by omega)).trans cp
  have c0 := (hW (w.heap.size + 1) 0 (by omega)).trans cu.1
  have c1 := (hW (w.heap.size + 1) 1 (by omega)).trans cu.2.1
  have c2 := (hW (w.heap.size + 1) 2 (by omega)).trans cu.2.2.1
  have c3 := (hW (w.heap.size + 1) 3 (by omega)).trans cu.2.2.2
  have tp : Tells W 61 #[.pointer (some ⟨b5, 0, none⟩)] f.pl f.ps := ⟨Tryd.call61, fun W' h i hi => params_at W' b5 f.pl f.pc i f.pa f.ps hi ((h.cell (World.block_lt_of_cell? W _ q5')).trans q5') (texts (Strs_below (hWb.trans (h.mono hWb.size)) hf.2.2.2.1))⟩
  have tv : Tells W 58 #[.pointer (some ⟨b6, 0, none⟩)] u.vl u.vs := ⟨Tryd.call58, fun W' h i hi => vars_at W' b6 u.vl u.vc i u.va u.vs hi ((h.cell (World.block_lt_of_cell? W _ q6')).trans q6') (texts (Strs_below (hWb.trans (h.mono hWb.size)) hu.2.1))⟩
  have ta : Tells W 59 #[.pointer (some ⟨b8, 0, none⟩)] u.al u.an := ⟨Tryd.call59, fun W' h i hi => arrays_at W' b8 u.al u.ac i u.aa u.an hi ((h.cell (World.block_lt_of_cell? W _ q8')).trans q8') (pairs (ARow_below (hWb.trans (h.mono hWb.size)) hu.2.2.1))⟩
  have tb : Tells W 57 #[.pointer (some ⟨ba, 0, none⟩), .pointer (some ⟨bb, 0, none⟩)] (f.pl + u.vl) (both f.pl f.ps u.vs) := ⟨Tryd.call57, fun W' h i hi => both_at W' ba bb f.pl u.vl _ _ i _ _ f.ps u.vs hi hpv ((h.cell (World.block_lt_of_cell? W _ a0')).trans a0') ((h.cell (World.block_lt_of_cell? W _ a1')).trans a1') ((h.cell (World.block_lt_of_cell? W _ b1')).trans b1') (tp.below h) (tv.below h)⟩
  exact ⟨fun W' s h => NBoth.has W' _ (f.pl + u.vl) _ (both f.pl f.ps u.vs) s hpv (tb.below h), fun W' s h => NBoth.has W' _ u.al _ u.an s hu.1.2.2.1 (ta.below h),
    fun W' of s h => NAsk.ask W' (w.heap.size + 1) w.heap.size len pcap pa U u of s hl ⟨(h.cell (World.block_lt_of_cell? W _ c0)).trans c0, (h.cell (World.block_lt_of_cell? W _ c1)).trans c1, (h.cell (World.block_lt_of_cell? W _ c2)).trans c2, (h.cell (World.block_lt_of_cell? W _ c3)).trans c3⟩ (UnitLies_below (hWb.trans (h.mono hWb.size)) hu) ((h.cell (World.block_lt_of_cell? W _ cp')).trans cp') (URow_below (hWb.trans (h.mono hWb.size)) hU)⟩

set_option maxHeartbeats 4000000 in
theorem scopeOf (w : World) (len pcap : Nat) (pa : Option Addr) (U : Nat → UnitD) (u : UnitD) (f : FuncD) (hl : len ≤ maxLen) (hU : URow w pa len U) (hu : UnitLies w u) (hf : FuncLies w f) (hpv : f.pl + u.vl ≤ maxLen) :
    Calls Tryd.prog 45 #[.slice pa len pcap, .agg #[.string u.name, .slice u.va u.vl u.vc, .slice u.aa u.al u.ac, .slice u.fa u.fl u.fc], .agg #[.string f.name, .bool f.op, .slice f.pa f.pl f.pc, .slice f.ba f.bl f.bc]] w fun e w' => ∃ la ar ub pb, e = .returned (.agg #[.func (.func 62) #[la] #[], .func (.func 62) #[ar] #[], .func (.func 63) #[] #[.pointer (some ⟨ub, 0, none⟩), .pointer (some ⟨pb, 0, none⟩)]]) ∧
      Scope w' la ar (.pointer (some ⟨ub, 0, none⟩)) (.pointer (some ⟨pb, 0, none⟩)) len U u f ∧ Below w.heap.size w w' := by
  have kp := fun W => params_made W f.pl f.pc f.pa hf.2.1 (.string f.name) (.bool f.op) (.slice f.ba f.bl f.bc)
  have kv := fun W => vars_made W u.vl u.vc u.va hu.1.2.1 (.string u.name) (.slice u.aa u.al u.ac) (.slice u.fa u.fl u.fc)
  have ka := fun W => arrays_made W u.al u.ac u.aa hu.1.2.2.1 (.string u.name) (.slice u.va u.vl u.vc) (.slice u.fa u.fl u.fc)
  have kb : ∀ b5 b6 W, Calls Tryd.prog 40 _ W _ := fun b5 b6 W => both_made W f.pl u.vl 61 58 #[.pointer (some ⟨b5, 0, none⟩)] #[.pointer (some ⟨b6, 0, none⟩)] hpv
  have fin := fun (w8 W : World) (b5 b6 ba bb b8 : Nat) => finish (w := w) (w8 := w8) (W := W) (b5 := b5) (b6 := b6) (ba := ba) (bb := bb) (b8 := b8) (pcap := pcap) hl hU hu hf hpv
  have hmf : ∀ (fn : Fn) (first cap : Array Value) (w : World), (Instr.makeFunc fn first cap).run Tryd.prog w = .ok (.func fn first cap) w := fun _ _ _ _ => rfl
  obtain ⟨w4, ew⟩ : ∃ w4, w4 = ((((w.alloc (.cells #[.slice pa len pcap] 23)).alloc (.cells #[.string u.name, .slice u.va u.vl u.vc, .slice u.aa u.al u.ac, .slice u.fa u.fl u.fc] 41)).alloc (.cells #[.string f.name, .bool f.op, .slice f.pa f.pl f.pc, .slice f.ba f.bl f.bc] 37)).alloc (.cells #[.nilFunc, .nilFunc, .nilFunc] 100)) := ⟨_, rfl⟩
  have hs4 : w4.heap.size = w.heap.size + 4 := by rw [ew]; simp
  have hb4 : Below w.heap.size w w4 := by
    rw [ew]
    exact ((below2 w _ _).alloc (below2 w _ _).size _).alloc (by simp; omega) _
  have g0 : w4.heap[w.heap.size]? = some (.cells #[.slice pa len pcap] 23) := by rw [ew]; simp only [heap_get, size_at, if_true]; (repeat first | rw [if_pos (by omega)] | rw [if_neg (by omega)])
  have g1 : w4.heap[w.heap.size + 1]? = some (.cells #[.string u.name, .slice u.va u.vl u.vc, .slice u.aa u.al u.ac, .slice u.fa u.fl u.fc] 41) := by rw [ew]; simp only [heap_get, size_at, if_true]; (repeat first | rw [if_pos (by omega)] | rw [if_neg (by omega)])
  have g2 : w4.heap[w.heap.size + 1 + 1]? = some (.cells #[.string f.name, .bool f.op, .slice f.pa f.pl f.pc, .slice f.ba f.bl f.bc] 37) := by rw [ew]; simp only [heap_get, size_at, if_true]; (repeat first | rw [if_pos (by omega)] | rw [if_neg (by omega)])
  have g3 : w4.heap[w.heap.size + 1 + 1 + 1]? = some (.cells #[.nilFunc, .nilFunc, .nilFunc] 100) := by rw [ew]; simp only [heap_get, size_at, if_true]; (repeat first | rw [if_pos (by omega)] | rw [if_neg (by omega)])
  have bx : ∀ W, Below w4.heap.size w4 W → W.cell? ⟨w.heap.size, 0, none⟩ = some (.slice pa len pcap) ∧ (W.cell? ⟨w.heap.size + 1, 0, none⟩ = some (.string u.name) ∧ W.cell? ⟨w.heap.size + 1, 1, none⟩ = some (.slice u.va u.vl u.vc) ∧ W.cell? ⟨w.heap.size + 1, 2, none⟩ = some (.slice u.aa u.al u.ac) ∧ W.cell? ⟨w.heap.size + 1, 3, none⟩ = some (.slice u.fa u.fl u.fc)) ∧
      (W.cell? ⟨w.heap.size + 1 + 1, 0, none⟩ = some (.string f.name) ∧ W.cell? ⟨w.heap.size + 1 + 1, 1, none⟩ = some (.bool f.op) ∧ W.cell? ⟨w.heap.size + 1 + 1, 2, none⟩ = some (.slice f.pa f.pl f.pc) ∧ W.cell? ⟨w.heap.size + 1 + 1, 3, none⟩ = some (.slice f.ba f.bl f.bc)) ∧
      (W.cell? ⟨w.heap.size + 1 + 1 + 1, 0, none⟩ = some .nilFunc ∧ W.cell? ⟨w.heap.size + 1 + 1 + 1, 1, none⟩ = some .nilFunc ∧ W.cell? ⟨w.heap.size + 1 + 1 + 1, 2, none⟩ = some .nilFunc) ∧ (W.frozen? ⟨w.heap.size + 1 + 1 + 1, 0, none⟩ = false ∧ W.frozen? ⟨w.heap.size + 1 + 1 + 1, 1, none⟩ = false ∧ W.frozen? ⟨w.heap.size + 1 + 1 + 1, 2, none⟩ = false) := fun W h => by
    have h0 := (h.block w.heap.size (by omega)).trans g0
    have h1 := (h.block (w.heap.size + 1) (by omega)).trans g1
    have h2 := (h.block (w.heap.size + 1 + 1) (by omega)).trans g2
    have h3 := (h.block (w.heap.size + 1 + 1 + 1) (by omega)).trans g3
    exact ⟨cell_of_heap h0 rfl, ⟨cell_of_heap h1 rfl, cell_of_heap h1 rfl, cell_of_heap h1 rfl, cell_of_heap h1 rfl⟩, ⟨cell_of_heap h2 rfl, cell_of_heap h2 rfl, cell_of_heap h2 rfl, cell_of_heap h2 rfl⟩, ⟨cell_of_heap h3 rfl, cell_of_heap h3 rfl, cell_of_heap h3 rfl⟩, ⟨frozen_of_row W _ _ _ _ h3, frozen_of_row W _ _ _ _ h3, frozen_of_row W _ _ _ _ h3⟩⟩
  have hr : ∀ W, Below w4.heap.size w4 W → W.heap[w.heap.size + 1 + 1 + 1]? = some (.cells #[.nilFunc, .nilFunc, .nilFunc] 100) := fun W h => (h.block (w.heap.size + 1 + 1 + 1) (by omega)).trans g3
  have HR : Hid _ := hr
  have EW : Hid (((((w.alloc (.cells #[.slice pa len pcap] 23)).alloc (.cells #[.string u.name, .slice u.va u.vl u.vc, .slice u.aa u.al u.ac, .slice u.fa u.fl u.fc] 41)).alloc (.cells #[.string f.name, .bool f.op, .slice f.pa f.pl f.pc, .slice f.ba f.bl f.bc] 37)).alloc (.cells #[.nilFunc, .nilFunc, .nilFunc] 100)) = w4) := ew.symm
  have BX : Hid _ := bx
  have HB4 : Hid _ := hb4
  have HS4 : Hid _ := hs4
  have KP : Hid _ := kp
  have KV : Hid _ := kv
  have KA : Hid _ := ka
  have KB : Hid _ := kb
  have FN : Hid _ := fin
  clear kp kv ka kb fin bx hr hb4 hs4 g0 g1 g2 g3 ew hU hu hf hl hpv
  go_enter Tryd.func45, Tryd.ntmps45
  go_wp2
  rw [EW.out]
  have bs : ∀ W, Below w4.heap.size w4 W → (W.cell? ⟨w.heap.size + 1, 0, none⟩ = some (.string u.name) ∧ W.cell? ⟨w.heap.size + 1, 1, none⟩ = some (.slice u.va u.vl u.vc) ∧ W.cell? ⟨w.heap.size + 1, 2, none⟩ = some (.slice u.aa u.al u.ac) ∧ W.cell? ⟨w.heap.size + 1, 3, none⟩ = some (.slice u.fa u.fl u.fc)) ∧ (W.cell? ⟨w.heap.size + 1 + 1, 0, none⟩ = some (.string f.name) ∧ W.cell? ⟨w.heap.size + 1 + 1, 1, none⟩ = some (.bool f.op) ∧ W.cell? ⟨w.heap.size + 1 + 1, 2, none⟩ = some (.slice f.pa f.pl f.pc) ∧ W.cell? ⟨w.heap.size + 1 + 1, 3, none⟩ = some (.slice f.ba f.bl f.bc)) := fun W h => ⟨(BX.out W h).2.1, (BX.out W h).2.2.1⟩
  have bt : ∀ (W : World) (u0 u1 u2 : Value), Below w4.heap.size w4 W → ((((W.setCell ⟨w.heap.size + 1 + 1 + 1, 0, none⟩ u0).setCell ⟨w.heap.size + 1 + 1 + 1, 1, none⟩ u1).setCell ⟨w.heap.size + 1 + 1 + 1, 2, none⟩ u2).cell? ⟨w.heap.size + 1, 0, none⟩ = some (.string u.name) ∧ (((W.setCell ⟨w.heap.size + 1 + 1 + 1, 0, none⟩ u0).setCell ⟨w.heap.size + 1 + 1 + 1, 1, none⟩ u1).setCell ⟨w.heap.size + 1 + 1 + 1, 2, none⟩ u2).cell? ⟨w.heap.size + 1, 1, none⟩ = some (.slice u.va u.vl u.vc) ∧ (((W.setCell ⟨w.heap.size + 1 + 1 + 1, 0, none⟩ u0).setCell ⟨w.heap.size + 1 + 1 + 1, 1, none⟩ u1).setCell ⟨w.heap.size + 1 + 1 + 1, 2, none⟩ u2).cell? ⟨w.heap.size + 1, 2, none⟩ = some (.slice u.aa u.al u.ac) ∧ (((W.setCell ⟨w.heap.size + 1 + 1 + 1, 0, none⟩ u0).setCell ⟨w.heap.size + 1 + 1 + 1, 1, none⟩ u1).setCell ⟨w.heap.size + 1 + 1 + 1, 2, none⟩ u2).cell? ⟨w.heap.size + 1, 3, none⟩ = some (.slice u.fa u.fl u.fc)) ∧ ((((W.setCell ⟨w.heap.size + 1 + 1 + 1, 0, none⟩ u0).setCell ⟨w.heap.size + 1 + 1 + 1, 1, none⟩ u1).setCell ⟨w.heap.size + 1 + 1 + 1, 2, none⟩ u2).cell? ⟨w.heap.size + 1 + 1, 0, none⟩ = some (.string f.name) ∧ (((W.setCell ⟨w.heap.size + 1 + 1 + 1, 0, none⟩ u0).setCell ⟨w.heap.size + 1 + 1 + 1, 1, none⟩ u1).setCell ⟨w.heap.size + 1 + 1 + 1, 2, none⟩ u2).cell? ⟨w.heap.size + 1 + 1, 1, none⟩ = some (.bool f.op) ∧ (((W.setCell ⟨w.heap.size + 1 + 1 + 1, 0, none⟩ u0).setCell ⟨w.heap.size + 1 + 1 + 1, 1, none⟩ u1).setCell ⟨w.heap.size + 1 + 1 + 1, 2, none⟩ u2).cell? ⟨w.heap.size + 1 + 1, 2, none⟩ = some (.slice f.pa f.pl f.pc) ∧ (((W.setCell ⟨w.heap.size + 1 + 1 + 1, 0, none⟩ u0).setCell ⟨w.heap.size + 1 + 1 + 1, 1, none⟩ u1).setCell ⟨w.heap.size + 1 + 1 + 1, 2, none⟩ u2).cell? ⟨w.heap.size + 1 + 1, 3, none⟩ = some (.slice f.ba f.bl f.bc)) := fun W u0 u1 u2 h => by
    obtain ⟨⟨c0, c1, c2, c3⟩, ⟨d0, d1, d2, d3⟩⟩ := bs W h
    exact ⟨⟨(off3 (by omega) _ _ _).trans c0, (off3 (by omega) _ _ _).trans c1, (off3 (by omega) _ _ _).trans c2, (off3 (by omega) _ _ _).trans c3⟩, ⟨(off3 (by omega) _ _ _).trans d0, (off3 (by omega) _ _ _).trans d1, (off3 (by omega) _ _ _).trans d2, (off3 (by omega) _ _ _).trans d3⟩⟩
  have BS : Hid _ := bs
  have BT : Hid _ := bt
  clear bs bt
  go_region_held3 (fun W => (W.cell? ⟨w.heap.size + 1, 0, none⟩ = some (.string u.name) ∧ W.cell? ⟨w.heap.size + 1, 1, none⟩ = some (.slice u.va u.vl u.vc) ∧ W.cell? ⟨w.heap.size + 1, 2, none⟩ = some (.slice u.aa u.al u.ac) ∧ W.cell? ⟨w.heap.size + 1, 3, none⟩ = some (.slice u.fa u.fl u.fc)) ∧ (W.cell? ⟨w.heap.size + 1 + 1, 0, none⟩ = some (.string f.name) ∧ W.cell? ⟨w.heap.size + 1 + 1, 1, none⟩ = some (.bool f.op) ∧ W.cell? ⟨w.heap.size + 1 + 1, 2, none⟩ = some (.slice f.pa f.pl f.pc) ∧ W.cell? ⟨w.heap.size + 1 + 1, 3, none⟩ = some (.slice f.ba f.bl f.bc)))
    (first | (with_reducible exact BS.out _ (Below.refl _ _).drew) | (with_reducible exact BS.out _ HB8.out) | (with_reducible exact BT.out _ _ _ _ HB8.out) | (with_reducible exact BS.out _ HB7.out) | (with_reducible exact BS.out _ HB6.out) | (with_reducible exact BS.out _ HB5.out))
    (first
    | (go_at_call 44; refine (KP.out _).mono ?_; rintro e w5 ⟨hb5, b5, rfl, q5⟩; have HB5 : Hid (Below w4.heap.size w4 w5) := (Below.refl _ w4).drew.trans hb5; have Q5 : Hid _ := q5; clear q5; have HX5 : Hid _ := hb5; clear hb5)
    | (go_at_call 41; refine (KV.out _).mono ?_; rintro e w6 ⟨hb6, b6, rfl, q6⟩; have HB6 : Hid (Below w4.heap.size w4 w6) := HB5.out.trans (hb6.mono HB5.out.size); have Q6 : Hid _ := q6; clear q6; have HX6 : Hid _ := hb6; clear hb6)
    | (go_at_call 40; refine (KB.out b5 b6 _).mono ?_; rintro e w7 ⟨hb7, ba, bb, rfl, a0, a1, b1⟩; have HB7 : Hid (Below w4.heap.size w4 w7) := HB6.out.trans (hb7.mono HB6.out.size); have A0 : Hid _ := a0; have A1 : Hid _ := a1; have B1 : Hid _ := b1; clear a0 a1 b1; have HX7 : Hid _ := hb7; clear hb7)
    | (go_at_call 42; refine (KA.out _).mono ?_; rintro e w8 ⟨hb8, b8, rfl, q8⟩; have HB8 : Hid (Below w4.heap.size w4 w8) := HB7.out.trans (hb8.mono HB7.out.size); have Q8 : Hid _ := q8; clear q8; have HX8 : Hid _ := hb8; clear hb8; obtain ⟨_, _, _, ⟨e0, e1, e2⟩, ⟨z0, z1, z2⟩⟩ := BX.out _ HB8.out; obtain ⟨S0, S1, S2⟩ := scope_stores e0 e1 e2 z0 z1 z2)
    | fail)
  all_goals
    have hg8 := HR.out _ HB8.out
    have HG8 : Hid _ := hg8
    clear hg8 S0 S1 S2
    go_wp2
    rw [set3 HG8.out]
    refine bodyPost_ret (results_cell_row rfl _ _ (w.heap.size + 1 + 1 + 1) 100 #[.func (.func 62) #[.agg #[.int .i64 ((f.pl : Int) + u.vl), .func (.func 57) #[] #[.pointer (some ⟨ba, 0, none⟩), .pointer (some ⟨bb, 0, none⟩)]]] #[], .func (.func 62) #[.agg #[.int .i64 u.al, .func (.func 59) #[] #[.pointer (some ⟨b8, 0, none⟩)]]] #[], .func (.func 63) #[] #[.pointer (some ⟨w.heap.size + 1, 0, none⟩), .pointer (some ⟨w.heap.size, 0, none⟩)]] (0, 0) _ rfl (setRow_heap _ _ _ _ _ _ HG8.out) Tryd.underlying100 rfl sizeScope) rfl ⟨_, _, _, _, rfl, FN.out w8 _ b5 b6 ba bb b8 ?_ e0 e1 e2 ?_ ?_ ?_ Q8.out ?_ ?_ ?_ (BX.out _ HB8.out).1 (BX.out _ HB8.out).2.1, ?_⟩
    · exact below_row (HB4.out.trans (HB8.out.mono HB4.out.size)) (by omega) _
    · intro b i hb
      exact cell_setRow_other _ _ _ _ hb
    · exact (HX8.out.cell (World.block_lt_of_cell? w7 _ ((HX7.out.cell (World.block_lt_of_cell? w6 _ ((HX6.out.cell (World.block_lt_of_cell? w5 _ Q5.out)).trans Q5.out))).trans ((HX6.out.cell (World.block_lt_of_cell? w5 _ Q5.out)).trans Q5.out)))).trans ((HX7.out.cell (World.block_lt_of_cell? w6 _ ((HX6.out.cell (World.block_lt_of_cell? w5 _ Q5.out)).trans Q5.out))).trans ((HX6.out.cell (World.block_lt_of_cell? w5 _ Q5.out)).trans Q5.out))
    · exact (HX8.out.cell (World.block_lt_of_cell? w7 _ ((HX7.out.cell (World.block_lt_of_cell? w6 _ Q6.out)).trans Q6.out))).trans ((HX7.out.cell (World.block_lt_of_cell? w6 _ Q6.out)).trans Q6.out)
    · exact (HX8.out.cell (World.block_lt_of_cell? w7 _ A0.out)).trans A0.out
    · exact (HX8.out.cell (World.block_lt_of_cell? w7 _ A1.out)).trans A1.out
    · exact (HX8.out.cell (World.block_lt_of_cell? w7 _ B1.out)).trans B1.out
    · exact below_row (HB4.out.trans (HB8.out.mono HB4.out.size)) (by omega) _
end Go.Proofs.YtgjemlhnlpglbaaDoor.NScopeOf
