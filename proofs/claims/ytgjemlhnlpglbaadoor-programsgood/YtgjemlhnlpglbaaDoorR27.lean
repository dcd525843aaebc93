/-
  WHAT names.unitsOf, funcsOf, THEIR CLOSURES, names.Unit AND Func GIVE, and the document's UnitAt and FuncAt: the place of a name.
  Conditions: the names lie there.
-/
import Derived.Test.YtgjemlhnlpglbaaDoorR0
import Derived.Laws.Rows
import Derived.Laws.Tables
namespace Go.Proofs.YtgjemlhnlpglbaaDoor.NUnits
open Go.RowKit NPlace

/-- names of things of four cells lie there, each in the first of them -/
def Heads (w : World) (ao : Option Addr) (len : Nat) (z : Nat → ByteArray) : Prop := ∀ i, i < len → ∃ bl off, ao = some ⟨bl, off, none⟩ ∧ w.cell? ⟨bl, off + i * 4, none⟩ = some (.string (z i))

theorem Heads_below {w w' : World} (hb : Below w.heap.size w w') {ao : Option Addr} {len : Nat} {z : Nat → ByteArray} (h : Heads w ao len z) : Heads w' ao len z := fun i hi => by
  obtain ⟨bl, off, e, t⟩ := h i hi
  exact ⟨bl, off, e, (hb.cell (World.block_lt_of_cell? w _ t)).trans t⟩

theorem below2 (w : World) (o o' : Obj) : Below w.heap.size w ((w.alloc o).alloc o') := ((Below.refl _ _).alloc (Nat.le_refl _) o).alloc (by simp) o'
theorem sizeList : (Tryd.prog.info? 68).map (·.size) = some 2 := by kernel_rfl

theorem units_at (w : World) (b len cap i : Nat) (ao : Option Addr) (z : Nat → ByteArray) (hi : i < len) (hc : w.cell? ⟨b, 0, none⟩ = some (.slice ao len cap)) (h : Heads w ao len z) :
    Calls Tryd.prog 37 #[.int .i64 i, .pointer (some ⟨b, 0, none⟩)] w fun e w' => e = .returned (.string (z i)) ∧ Below w.heap.size w w' := by
  obtain ⟨bl, off, rfl, t⟩ := h i hi
  have hiI : (i : Int) < len := by omega
  clear h
  go_enter Tryd.func37, Tryd.ntmps37
  go_wp2
  go_ret
  exact ⟨rfl, Below.refl _ _⟩

theorem units_made (w : World) (len cap : Nat) (ao : Option Addr) (hl : len ≤ maxLen) :
    Calls Tryd.prog 16 #[.slice ao len cap] w fun e w' => Below w.heap.size w w' ∧ ∃ b, e = .returned (.agg #[.int .i64 len, .func (.func 37) #[] #[.pointer (some ⟨b, 0, none⟩)]]) ∧ w'.cell? ⟨b, 0, none⟩ = some (.slice ao len cap) := by
  have hmf : ∀ (fn : Fn) (first cap : Array Value) (w : World), (Instr.makeFunc fn first cap).run Tryd.prog w = .ok (.func fn first cap) w := fun _ _ _ _ => rfl
  unfold maxLen at hl
  have hlI : (len : Int) ≤ 9223372036854775807 := by omega
  have hb := below2 w (.cells #[.slice ao len cap] 23) (.cells #[.int .i64 0, .nilFunc] 68)
  have hg := heap_alloc2_new w (.cells #[.slice ao len cap] 23) (.cells #[.int .i64 0, .nilFunc] 68)
  have hc : ((w.alloc (.cells #[.slice ao len cap] 23)).alloc (.cells #[.int .i64 0, .nilFunc] 68)).cell? ⟨w.heap.size, 0, none⟩ = some (.slice ao len cap) := (World.cell?_alloc_past _ _ _ (by simp)).trans (by simp)
  have HB : Hid _ := hb
  have HG : Hid _ := hg
  have HC : Hid _ := hc
  clear hl hb hg hc
  go_enter Tryd.func16, Tryd.ntmps16
  go_wp2_with ((with_reducible show wpList _ _ _ ({ dst := none, op := Op.store 68 _ _, type := _, pos := _, after := _, guard := _ } :: _) _ _); refine wpList_store_row rfl 68 _ _ rfl (w.heap.size + 1) #[.int .i64 len, .func (.func 37) #[] #[.pointer (some ⟨w.heap.size, 0, none⟩)]] rfl rfl 68 _ HG.out sizeList rfl (by simp [Value.oneCell']) ?_)
  refine bodyPost_ret (results_cell_row rfl _ _ (w.heap.size + 1) 68 #[.int .i64 len, .func (.func 37) #[] #[.pointer (some ⟨w.heap.size, 0, none⟩)]] (0, 0) _ rfl (setRow_heap _ _ _ _ _ _ HG.out) Tryd.underlying68 rfl sizeList) rfl ?_
  exact ⟨HB.out.trans ⟨rfl, rfl, rfl, by simp, fun k hk => setRow_other _ _ _ _ (by omega)⟩, w.heap.size, rfl, (cell_setRow_other _ _ _ _ (by simp)).trans HC.out⟩

theorem units (w : World) (len cap : Nat) (ao : Option Addr) (z : Nat → ByteArray) (hl : len ≤ maxLen) (h : Heads w ao len z) :
    Calls Tryd.prog 16 #[.slice ao len cap] w fun e w' => Below w.heap.size w w' ∧ ∃ b, e = .returned (.agg #[.int .i64 len, .func (.func 37) #[] #[.pointer (some ⟨b, 0, none⟩)]]) ∧ Tells w' 37 #[.pointer (some ⟨b, 0, none⟩)] len z := by
  refine (units_made w len cap ao hl).mono ?_
  rintro e w' ⟨hb, b, rfl, hc⟩
  exact ⟨hb, b, rfl, Tryd.call37, fun W hW i hi => units_at W b len cap i ao z hi ((hW.cell (World.block_lt_of_cell? w' _ hc)).trans hc) (Heads_below (hb.trans (hW.mono hb.size)) h)⟩

theorem funcs_at (w : World) (b len cap i : Nat) (ao : Option Addr) (z : Nat → ByteArray) (hi : i < len) (hc : w.cell? ⟨b, 3, none⟩ = some (.slice ao len cap)) (h : Heads w ao len z) :
    Calls Tryd.prog 60 #[.int .i64 i, .pointer (some ⟨b, 0, none⟩)] w fun e w' => e = .returned (.string (z i)) ∧ Below w.heap.size w w' := by
  obtain ⟨bl, off, rfl, t⟩ := h i hi
  have hiI : (i : Int) < len := by omega
  clear h
  go_enter Tryd.func60, Tryd.ntmps60
  go_wp2
  go_ret
  exact ⟨rfl, Below.refl _ _⟩

theorem funcs_made (w : World) (len cap : Nat) (ao : Option Addr) (hl : len ≤ maxLen) (y0 y1 y2 : Value) :
    Calls Tryd.prog 43 #[.agg #[y0, y1, y2, .slice ao len cap]] w fun e w' => Below w.heap.size w w' ∧ ∃ b, e = .returned (.agg #[.int .i64 len, .func (.func 60) #[] #[.pointer (some ⟨b, 0, none⟩)]]) ∧ w'.cell? ⟨b, 3, none⟩ = some (.slice ao len cap) := by
  have hmf : ∀ (fn : Fn) (first cap : Array Value) (w : World), (Instr.makeFunc fn first cap).run Tryd.prog w = .ok (.func fn first cap) w := fun _ _ _ _ => rfl
  unfold maxLen at hl
  have hlI : (len : Int) ≤ 9223372036854775807 := by omega
  have hb := below2 w (.cells #[y0, y1, y2, .slice ao len cap] 41) (.cells #[.int .i64 0, .nilFunc] 68)
  have hg := heap_alloc2_new w (.cells #[y0, y1, y2, .slice ao len cap] 41) (.cells #[.int .i64 0, .nilFunc] 68)
  have hc : ((w.alloc (.cells #[y0, y1, y2, .slice ao len cap] 41)).alloc (.cells #[.int .i64 0, .nilFunc] 68)).cell? ⟨w.heap.size, 3, none⟩ = some (.slice ao len cap) := (World.cell?_alloc_past _ _ _ (by simp)).trans (by simp)
  have HB : Hid _ := hb
  have HG : Hid _ := hg
  have HC : Hid _ := hc
  clear hl hb hg hc
  go_enter Tryd.func43, Tryd.ntmps43
  go_wp2_with ((with_reducible show wpList _ _ _ ({ dst := none, op := Op.store 68 _ _, type := _, pos := _, after := _, guard := _ } :: _) _ _); refine wpList_store_row rfl 68 _ _ rfl (w.heap.size + 1) #[.int .i64 len, .func (.func 60) #[] #[.pointer (some ⟨w.heap.size, 0, none⟩)]] rfl rfl 68 _ HG.out sizeList rfl (by simp [Value.oneCell']) ?_)
  refine bodyPost_ret (results_cell_row rfl _ _ (w.heap.size + 1) 68 #[.int .i64 len, .func (.func 60) #[] #[.pointer (some ⟨w.heap.size, 0, none⟩)]] (0, 0) _ rfl (setRow_heap _ _ _ _ _ _ HG.out) Tryd.underlying68 rfl sizeList) rfl ?_
  exact ⟨HB.out.trans ⟨rfl, rfl, rfl, by simp, fun k hk => setRow_other _ _ _ _ (by omega)⟩, w.heap.size, rfl, (cell_setRow_other _ _ _ _ (by simp)).trans HC.out⟩

theorem funcs (w : World) (len cap : Nat) (ao : Option Addr) (z : Nat → ByteArray) (hl : len ≤ maxLen) (h : Heads w ao len z) (y0 y1 y2 : Value) :
    Calls Tryd.prog 43 #[.agg #[y0, y1, y2, .slice ao len cap]] w fun e w' => Below w.heap.size w w' ∧ ∃ b, e = .returned (.agg #[.int .i64 len, .func (.func 60) #[] #[.pointer (some ⟨b, 0, none⟩)]]) ∧ Tells w' 60 #[.pointer (some ⟨b, 0, none⟩)] len z := by
  refine (funcs_made w len cap ao hl y0 y1 y2).mono ?_
  rintro e w' ⟨hb, b, rfl, hc⟩
  exact ⟨hb, b, rfl, Tryd.call60, fun W hW i hi => funcs_at W b len cap i ao z hi ((hW.cell (World.block_lt_of_cell? w' _ hc)).trans hc) (Heads_below (hb.trans (hW.mono hb.size)) h)⟩

theorem unit (w : World) (len cap : Nat) (ao : Option Addr) (z : Nat → ByteArray) (s : ByteArray) (hl : len ≤ maxLen) (h : Heads w ao len z) :
    Calls Tryd.prog 22 #[.slice ao len cap, .string s] w fun e w' => e = .returned (.int .i64 (placeFrom z s 0 len)) ∧ Below w.heap.size w w' := by
  have hb0 : Below w.heap.size w w := Below.refl _ _
  have kl := units w len cap ao z hl (Heads_below hb0 h)
  have kp : ∀ W k caps, Tells W k caps len z → _ := fun W k caps h => place W k len caps z s hl h
  generalize placeFrom z s 0 len = r at kp ⊢
  have HB0 : Hid _ := hb0
  have KP : Hid _ := kp
  clear h hl hb0 kp
  go_enter Tryd.func22, Tryd.ntmps22
  go_wp2_with (first
    | (go_at_call 16; refine kl.mono ?_; rintro e w1 ⟨hb1, b, rfl, ht⟩; have HB1 : Hid _ := hb1; have HT : Hid _ := ht; clear hb1 ht)
    | (go_at_call 38; refine (KP.out _ _ _ HT.out).mono ?_; rintro e w2 ⟨rfl, hb2⟩; have HB2 : Hid _ := hb2; clear hb2))
  go_ret
  exact ⟨rfl, HB0.out.trans ((HB1.out.trans (HB2.out.mono HB1.out.size)).mono HB0.out.size)⟩

theorem func (w : World) (len cap : Nat) (ao : Option Addr) (z : Nat → ByteArray) (s : ByteArray) (hl : len ≤ maxLen) (h : Heads w ao len z) (y0 y1 y2 : Value) :
    Calls Tryd.prog 51 #[.agg #[y0, y1, y2, .slice ao len cap], .string s] w fun e w' => e = .returned (.int .i64 (placeFrom z s 0 len)) ∧ Below w.heap.size w w' := by
  have hb0 : Below w.heap.size w (w.alloc (.cells #[y0, y1, y2, .slice ao len cap] 41)) := (Below.refl _ _).alloc (Nat.le_refl _) _
  have kl := funcs (w.alloc (.cells #[y0, y1, y2, .slice ao len cap] 41)) len cap ao z hl (Heads_below hb0 h) y0 y1 y2
  have kp : ∀ W k caps, Tells W k caps len z → _ := fun W k caps h => place W k len caps z s hl h
  generalize placeFrom z s 0 len = r at kp ⊢
  have HB0 : Hid _ := hb0
  have KP : Hid _ := kp
  clear h hl hb0 kp
  go_enter Tryd.func51, Tryd.ntmps51
  go_wp2_with (first
    | (go_at_call 43; refine kl.mono ?_; rintro e w1 ⟨hb1, b, rfl, ht⟩; have HB1 : Hid _ := hb1; have HT : Hid _ := ht; clear hb1 ht)
    | (go_at_call 38; refine (KP.out _ _ _ HT.out).mono ?_; rintro e w2 ⟨rfl, hb2⟩; have HB2 : Hid _ := hb2; clear hb2))
  go_ret
  exact ⟨rfl, HB0.out.trans ((HB1.out.trans (HB2.out.mono HB1.out.size)).mono HB0.out.size)⟩
end Go.Proofs.YtgjemlhnlpglbaaDoor.NUnits
