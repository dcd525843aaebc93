/-
  WHAT names.varsOf, arraysOf, paramsOf AND THEIR CLOSURES GIVE: lists of names, told place by place.
  Conditions: the names lie there.
  WHAT names.funcOf AND THE CLOSURE OF names.scopeOf GIVE: the function that is asked.
  Conditions: the units lie there.
-/
import Derived.Test.YtgjemlhnlpglbaaDoorR27
import Derived.Test.YtgjemlhnlpglbaaDoorR3
import Derived.Laws.Rows
import Derived.Laws.Tables
import Derived.Laws.ResultCell
import Derived.Deep.RegionLaw
namespace Go.Proofs.YtgjemlhnlpglbaaDoor.NLists
open Go.RowKit NPlace NUnits Trees

/-- names of things of two cells lie there, each in the first of them -/
def Pairs (w : World) (ao : Option Addr) (len : Nat) (z : Nat → ByteArray) : Prop := ∀ i, i < len → ∃ bl off, ao = some ⟨bl, off, none⟩ ∧ w.cell? ⟨bl, off + i * 2, none⟩ = some (.string (z i))

theorem Pairs_below {w w' : World} (hb : Below w.heap.size w w') {ao : Option Addr} {len : Nat} {z : Nat → ByteArray} (h : Pairs w ao len z) : Pairs w' ao len z := fun i hi => by
  obtain ⟨bl, off, e, t⟩ := h i hi
  exact ⟨bl, off, e, (hb.cell (World.block_lt_of_cell? w _ t)).trans t⟩

theorem pairs {w : World} {ao : Option Addr} {len : Nat} {nm : Nat → ByteArray} {sz : Nat → Int} (h : ARow w ao len nm sz) : Pairs w ao len nm := fun i hi => by
  obtain ⟨⟨bl, off, e, t, _⟩, _⟩ := h i hi
  exact ⟨bl, off, e, t⟩

/-- texts lie there -/
def Texts (w : World) (ao : Option Addr) (len : Nat) (z : Nat → ByteArray) : Prop := ∀ i, i < len → ∃ bl off, ao = some ⟨bl, off, none⟩ ∧ w.cell? ⟨bl, off + i, none⟩ = some (.string (z i))

theorem Texts_below {w w' : World} (hb : Below w.heap.size w w') {ao : Option Addr} {len : Nat} {z : Nat → ByteArray} (h : Texts w ao len z) : Texts w' ao len z := fun i hi => by
  obtain ⟨bl, off, e, t⟩ := h i hi
  exact ⟨bl, off, e, (hb.cell (World.block_lt_of_cell? w _ t)).trans t⟩

theorem texts {w : World} {ao : Option Addr} {len : Nat} {z : Nat → ByteArray} (h : Strs w ao len z) : Texts w ao len z := fun i hi => (h i hi).1

theorem heads {w : World} {ao : Option Addr} {len : Nat} {G : Nat → FuncD} (h : FRow w ao len G) : Heads w ao len fun i => (G i).name := fun i hi => by
  obtain ⟨⟨bl, off, e, t, _⟩, _⟩ := h i hi
  exact ⟨bl, off, e, t⟩

theorem vars_at (w : World) (b len cap i : Nat) (ao : Option Addr) (z : Nat → ByteArray) (hi : i < len) (hc : w.cell? ⟨b, 1, none⟩ = some (.slice ao len cap)) (h : Texts w ao len z) :
    Calls Tryd.prog 58 #[.int .i64 i, .pointer (some ⟨b, 0, none⟩)] w fun e w' => e = .returned (.string (z i)) ∧ Below w.heap.size w w' := by
  obtain ⟨bl, off, rfl, t⟩ := h i hi
  have hiI : (i : Int) < len := by omega
  clear h
  go_enter Tryd.func58, Tryd.ntmps58
  go_wp2
  go_ret
  exact ⟨rfl, Below.refl _ _⟩

theorem vars_made (w : World) (len cap : Nat) (ao : Option Addr) (hl : len ≤ maxLen) (y0 y1 y2 : Value) :
    Calls Tryd.prog 41 #[.agg #[y0, .slice ao len cap, y1, y2]] w fun e w' => Below w.heap.size w w' ∧ ∃ b, e = .returned (.agg #[.int .i64 len, .func (.func 58) #[] #[.pointer (some ⟨b, 0, none⟩)]]) ∧ w'.cell? ⟨b, 1, none⟩ = some (.slice ao len cap) := by
  have hmf : ∀ (fn : Fn) (first cap : Array Value) (w : World), (Instr.makeFunc fn first cap).run Tryd.prog w = .ok (.func fn first cap) w := fun _ _ _ _ => rfl
  unfold maxLen at hl
  have hlI : (len : Int) ≤ 9223372036854775807 := by omega
  have hb := below2 w (.cells #[y0, .slice ao len cap, y1, y2] 41) (.cells #[.int .i64 0, .nilFunc] 68)
  have hg := heap_alloc2_new w (.cells #[y0, .slice ao len cap, y1, y2] 41) (.cells #[.int .i64 0, .nilFunc] 68)
  have hc : ((w.alloc (.cells #[y0, .slice ao len cap, y1, y2] 41)).alloc (.cells #[.int .i64 0, .nilFunc] 68)).cell? ⟨w.heap.size, 1, none⟩ = some (.slice ao len cap) := (World.cell?_alloc_past _ _ _ (by simp)).trans (by simp)
  have HB : Hid _ := hb
  have HG : Hid _ := hg
  have HC : Hid _ := hc
  clear hl hb hg hc
  go_enter Tryd.func41, Tryd.ntmps41
  go_wp2_with ((with_reducible show wpList _ _ _ ({ dst := none, op := Op.store 68 _ _, type := _, pos := _, after := _, guard := _ } :: _) _ _); refine wpList_store_row rfl 68 _ _ rfl (w.heap.size + 1) #[.int .i64 len, .func (.func 58) #[] #[.pointer (some ⟨w.heap.size, 0, none⟩)]] rfl rfl 68 _ HG.out sizeList rfl (by simp [Value.oneCell']) ?_)
  refine bodyPost_ret (results_cell_row rfl _ _ (w.heap.size + 1) 68 #[.int .i64 len, .func (.func 58) #[] #[.pointer (some ⟨w.heap.size, 0, none⟩)]] (0, 0) _ rfl (setRow_heap _ _ _ _ _ _ HG.out) Tryd.underlying68 rfl sizeList) rfl ?_
  exact ⟨HB.out.trans ⟨rfl, rfl, rfl, by simp, fun k hk => setRow_other _ _ _ _ (by omega)⟩, w.heap.size, rfl, (cell_setRow_other _ _ _ _ (by simp)).trans HC.out⟩

theorem vars (w : World) (len cap : Nat) (ao : Option Addr) (z : Nat → ByteArray) (hl : len ≤ maxLen) (h : Texts w ao len z) (y0 y1 y2 : Value) :
    Calls Tryd.prog 41 #[.agg #[y0, .slice ao len cap, y1, y2]] w fun e w' => Below w.heap.size w w' ∧ ∃ b, e = .returned (.agg #[.int .i64 len, .func (.func 58) #[] #[.pointer (some ⟨b, 0, none⟩)]]) ∧ Tells w' 58 #[.pointer (some ⟨b, 0, none⟩)] len z := by
  refine (vars_made w len cap ao hl y0 y1 y2).mono ?_
  rintro e w' ⟨hb, b, rfl, hc⟩
  exact ⟨hb, b, rfl, Tryd.call58, fun W hW i hi => vars_at W b len cap i ao z hi ((hW.cell (World.block_lt_of_cell? w' _ hc)).trans hc) (Texts_below (hb.trans (hW.mono hb.size)) h)⟩

theorem arrays_at (w : World) (b len cap i : Nat) (ao : Option Addr) (z : Nat → ByteArray) (hi : i < len) (hc : w.cell? ⟨b, 2, none⟩ = some (.slice ao len cap)) (h : Pairs w ao len z) :
    Calls Tryd.prog 59 #[.int .i64 i, .pointer (some ⟨b, 0, none⟩)] w fun e w' => e = .returned (.string (z i)) ∧ Below w.heap.size w w' := by
  obtain ⟨bl, off, rfl, t⟩ := h i hi
  have hiI : (i : Int) < len := by omega
  clear h
  go_enter Tryd.func59, Tryd.ntmps59
  go_wp2
  go_ret
  exact ⟨rfl, Below.refl _ _⟩

theorem arrays_made (w : World) (len cap : Nat) (ao : Option Addr) (hl : len ≤ maxLen) (y0 y1 y2 : Value) :
    Calls Tryd.prog 42 #[.agg #[y0, y1, .slice ao len cap, y2]] w fun e w' => Below w.heap.size w w' ∧ ∃ b, e = .returned (.agg #[.int .i64 len, .func (.func 59) #[] #[.pointer (some ⟨b, 0, none⟩)]]) ∧ w'.cell? ⟨b, 2, none⟩ = some (.slice ao len cap) := by
  have hmf : ∀ (fn : Fn) (first cap : Array Value) (w : World), (Instr.makeFunc fn first cap).run Tryd.prog w = .ok (.func fn first cap) w := fun _ _ _ _ => rfl
  unfold maxLen at hl
  have hlI : (len : Int) ≤ 9223372036854775807 := by omega
  have hb := below2 w (.cells #[y0, y1, .slice ao len cap, y2] 41) (.cells #[.int .i64 0, .nilFunc] 68)
  have hg := heap_alloc2_new w (.cells #[y0, y1, .slice ao len cap, y2] 41) (.cells #[.int .i64 0, .nilFunc] 68)
  have hc : ((w.alloc (.cells #[y0, y1, .slice ao len cap, y2] 41)).alloc (.cells #[.int .i64 0, .nilFunc] 68)).cell? ⟨w.heap.size, 2, none⟩ = some (.slice ao len cap) := (World.cell?_alloc_past _ _ _ (by simp)).trans (by simp)
  have HB : Hid _ := hb
  have HG : Hid _ := hg
  have HC : Hid _ := hc
  clear hl hb hg hc
  go_enter Tryd.func42, Tryd.ntmps42
  go_wp2_with ((with_reducible show wpList _ _ _ ({ dst := none, op := Op.store 68 _ _, type := _, pos := _, after := _, guard := _ } :: _) _ _); refine wpList_store_row rfl 68 _ _ rfl (w.heap.size + 1) #[.int .i64 len, .func (.func 59) #[] #[.pointer (some ⟨w.heap.size, 0, none⟩)]] rfl rfl 68 _ HG.out sizeList rfl (by simp [Value.oneCell']) ?_)
  refine bodyPost_ret (results_cell_row rfl _ _ (w.heap.size + 1) 68 #[.int .i64 len, .func (.func 59) #[] #[.pointer (some ⟨w.heap.size, 0, none⟩)]] (0, 0) _ rfl (setRow_heap _ _ _ _ _ _ HG.out) Tryd.underlying68 rfl sizeList) rfl ?_
  exact ⟨HB.out.trans ⟨rfl, rfl, rfl, by simp, fun k hk => setRow_other _ _ _ _ (by omega)⟩, w.heap.size, rfl, (cell_setRow_other _ _ _ _ (by simp)).trans HC.out⟩

theorem arrays (w : World) (len cap : Nat) (ao : Option Addr) (z : Nat → ByteArray) (hl : len ≤ maxLen) (h : Pairs w ao len z) (y0 y1 y2 : Value) :
    Calls Tryd.prog 42 #[.agg #[y0, y1, .slice ao len cap, y2]] w fun e w' => Below w.heap.size w w' ∧ ∃ b, e = .returned (.agg #[.int .i64 len, .func (.func 59) #[] #[.pointer (some ⟨b, 0, none⟩)]]) ∧ Tells w' 59 #[.pointer (some ⟨b, 0, none⟩)] len z := by
  refine (arrays_made w len cap ao hl y0 y1 y2).mono ?_
  rintro e w' ⟨hb, b, rfl, hc⟩
  exact ⟨hb, b, rfl, Tryd.call59, fun W hW i hi => arrays_at W b len cap i ao z hi ((hW.cell (World.block_lt_of_cell? w' _ hc)).trans hc) (Pairs_below (hb.trans (hW.mono hb.size)) h)⟩

theorem params_at (w : World) (b len cap i : Nat) (ao : Option Addr) (z : Nat → ByteArray) (hi : i < len) (hc : w.cell? ⟨b, 2, none⟩ = some (.slice ao len cap)) (h : Texts w ao len z) :
    Calls Tryd.prog 61 #[.int .i64 i, .pointer (some ⟨b, 0, none⟩)] w fun e w' => e = .returned (.string (z i)) ∧ Below w.heap.size w w' := by
  obtain ⟨bl, off, rfl, t⟩ := h i hi
  have hiI : (i : Int) < len := by omega
  clear h
  go_enter Tryd.func61, Tryd.ntmps61
  go_wp2
  go_ret
  exact ⟨rfl, Below.refl _ _⟩

theorem params_made (w : World) (len cap : Nat) (ao : Option Addr) (hl : len ≤ maxLen) (y0 y1 y2 : Value) :
    Calls Tryd.prog 44 #[.agg #[y0, y1, .slice ao len cap, y2]] w fun e w' => Below w.heap.size w w' ∧ ∃ b, e = .returned (.agg #[.int .i64 len, .func (.func 61) #[] #[.pointer (some ⟨b, 0, none⟩)]]) ∧ w'.cell? ⟨b, 2, none⟩ = some (.slice ao len cap) := by
  have hmf : ∀ (fn : Fn) (first cap : Array Value) (w : World), (Instr.makeFunc fn first cap).run Tryd.prog w = .ok (.func fn first cap) w := fun _ _ _ _ => rfl
  unfold maxLen at hl
  have hlI : (len : Int) ≤ 9223372036854775807 := by omega
  have hb := below2 w (.cells #[y0, y1, .slice ao len cap, y2] 37) (.cells #[.int .i64 0, .nilFunc] 68)
  have hg := heap_alloc2_new w (.cells #[y0, y1, .slice ao len cap, y2] 37) (.cells #[.int .i64 0, .nilFunc] 68)
  have hc : ((w.alloc (.cells #[y0, y1, .slice ao len cap, y2] 37)).alloc (.cells #[.int .i64 0, .nilFunc] 68)).cell? ⟨w.heap.size, 2, none⟩ = some (.slice ao len cap) := (World.cell?_alloc_past _ _ _ (by simp)).trans (by simp)
  have HB : Hid _ := hb
  have HG : Hid _ := hg
  have HC : Hid _ := hc
  clear hl hb hg hc
  go_enter Tryd.func44, Tryd.ntmps44
  go_wp2_with ((with_reducible show wpList _ _ _ ({ dst := none, op := Op.store 68 _ _, type := _, pos := _, after := _, guard := _ } :: _) _ _); refine wpList_store_row rfl 68 _ _ rfl (w.heap.size + 1) #[.int .i64 len, .func (.func 61) #[] #[.pointer (some ⟨w.heap.size, 0, none⟩)]] rfl rfl 68 _ HG.out sizeList rfl (by simp [Value.oneCell']) ?_)
  refine bodyPost_ret (results_cell_row rfl _ _ (w.heap.size + 1) 68 #[.int .i64 len, .func (.func 61) #[] #[.pointer (some ⟨w.heap.size, 0, none⟩)]] (0, 0) _ rfl (setRow_heap _ _ _ _ _ _ HG.out) Tryd.underlying68 rfl sizeList) rfl ?_
  exact ⟨HB.out.trans ⟨rfl, rfl, rfl, by simp, fun k hk => setRow_other _ _ _ _ (by omega)⟩, w.heap.size, rfl, (cell_setRow_other _ _ _ _ (by simp)).trans HC.out⟩

theorem params (w : World) (len cap : Nat) (ao : Option Addr) (z : Nat → ByteArray) (hl : len ≤ maxLen) (h : Texts w ao len z) (y0 y1 y2 : Value) :
    Calls Tryd.prog 44 #[.agg #[y0, y1, .slice ao len cap, y2]] w fun e w' => Below w.heap.size w w' ∧ ∃ b, e = .returned (.agg #[.int .i64 len, .func (.func 61) #[] #[.pointer (some ⟨b, 0, none⟩)]]) ∧ Tells w' 61 #[.pointer (some ⟨b, 0, none⟩)] len z := by
  refine (params_made w len cap ao hl y0 y1 y2).mono ?_
  rintro e w' ⟨hb, b, rfl, hc⟩
  exact ⟨hb, b, rfl, Tryd.call61, fun W hW i hi => params_at W b len cap i ao z hi ((hW.cell (World.block_lt_of_cell? w' _ hc)).trans hc) (Texts_below (hb.trans (hW.mono hb.size)) h)⟩
end Go.Proofs.YtgjemlhnlpglbaaDoor.NLists

namespace Go.Proofs.YtgjemlhnlpglbaaDoor.NScope
open Go.RowKit NPlace NPlain NUnits NLists Go.Proofs.YtgjemlhnlpglbaaDoor.Ident Trees NSense

/-- a function's cells -/
def fcells (g : FuncD) : Array Value := #[.string g.name, .bool g.op, .slice g.pa g.pl g.pc, .slice g.ba g.bl g.bc]
def noFunc : FuncD := ⟨⟨#[]⟩, false, none, 0, 0, fun _ => ⟨#[]⟩, none, 0, 0, fun _ _ => ⟨0, ⟨#[]⟩, none, 0, 0, fun _ _ => ⟨0, 0, ⟨#[]⟩, ⟨#[]⟩, none, 0, 0⟩, none, 0, 0, none, 0, 0⟩⟩

theorem sizeFunc : (Tryd.prog.info? 37).map (·.size) = some 4 := by kernel_rfl

/-- a function that lies in the result's block is handed back -/
theorem pair {f : Func} {i j : Nat} (hf : f.results = #[.cell i 37, .tmp j]) (tmps : Array Value) (w : World) (g : Nat) (cs : Array Value) (t : TypeId) (fr : Nat × Nat) (v : Value) (hp : tmps.getD i undef = .pointer (some ⟨g, 0, none⟩)) (hv : tmps.getD j undef = v) (hg : w.heap[g]? = some (.cells cs t fr)) (hs : cs.size = 4) :
    (results f tmps).run Tryd.prog w = .ok (.tuple #[.agg cs, v]) w := by
  rw [results_cell_tmp hf, hp, hv]
  have h := run_loadVar_row (P := Tryd.prog) w g t 37 cs fr _ hg Tryd.underlying37 rfl (by rw [sizeFunc, hs])
  simp [asAddr, h, Result.andThen]

theorem results45 : Tryd.f64.results = #[.cell 4 37, .tmp 5] := by kernel_rfl
theorem results44 : Tryd.f63.results = #[.cell 6 37, .tmp 7] := by kernel_rfl

theorem below_row {B g : Nat} {w0 w : World} (hb : Below B w0 w) (hBg : B ≤ g) (cs : Array Value) : Below B w0 (w.setRow g cs) :=
  hb.trans ⟨rfl, rfl, rfl, by simp [World.setRow], fun k hk => setRow_other w g k cs (by omega)⟩

theorem uheads {w : World} {ao : Option Addr} {len : Nat} {U : Nat → UnitD} (h : URow w ao len U) : Heads w ao len (unitNames U) := fun i hi => by
  obtain ⟨⟨bl, off, e, t, _⟩, _⟩ := h i hi
  exact ⟨bl, off, e, t⟩

set_option maxHeartbeats 1000000 in
theorem func_some (u : UnitD) (s : ByteArray) (k : Nat) (w : World) (hu : UnitLies w u) (hk : placeFrom (funcNames u) s 0 u.fl = k) (hkf : k < u.fl) (g : FuncD) (hg : u.fs k = g) :
    Calls Tryd.prog 64 #[.agg #[.string u.name, .slice u.va u.vl u.vc, .slice u.aa u.al u.ac, .slice u.fa u.fl u.fc], .string s] w fun e w' => e = .returned (.tuple #[.agg #[.string g.name, .bool g.op, .slice g.pa g.pl g.pc, .slice g.ba g.bl g.bc], .bool true]) ∧ Below w.heap.size w w' := by
  have k54 : ∀ W, Below w.heap.size w W → _ := fun W hb => func W u.fl u.fc u.fa (funcNames u) s hu.1.2.2.2 (heads (FRow_below hb hu.2.2.2)) (.string u.name) (.slice u.va u.vl u.vc) (.slice u.aa u.al u.ac)
  rw [hk] at k54
  have row : ∀ W, Below w.heap.size w W → ∃ bl off, u.fa = some ⟨bl, off, none⟩ ∧ W.cell? ⟨bl, off + k * 4, none⟩ = some (.string g.name) ∧ W.cell? ⟨bl, off + k * 4 + 1, none⟩ = some (.bool g.op) ∧ W.cell? ⟨bl, off + k * 4 + 2, none⟩ = some (.slice g.pa g.pl g.pc) ∧ W.cell? ⟨bl, off + k * 4 + 3, none⟩ = some (.slice g.ba g.bl g.bc) := fun W hb => by
    have h := (FRow_below hb hu.2.2.2 k hkf).1
    rw [hg] at h
    exact h
  have hfl := hu.1.2.2.2
  clear hu hk hg
  obtain ⟨name, va, vl, vc, vs, aa, al, ac, an, az, fa, fl, fc, fs⟩ := u
  obtain ⟨gn, go, gpa, gpl, gpc, gps, gba, gbl, gbc, gb⟩ := g
  dsimp only at *
  unfold maxLen at hfl
  have hkI : (k : Int) < fl := by omega
  have hflI : (fl : Int) ≤ 9223372036854775807 := by omega
  have hb2 := below2 w (.cells #[.string name, .slice va vl vc, .slice aa al ac, .slice fa fl fc] 41) (.cells #[.string ⟨#[]⟩, .bool false, .slice none 0 0, .slice none 0 0] 37)
  have hg2 := heap_alloc2_new w (.cells #[.string name, .slice va vl vc, .slice aa al ac, .slice fa fl fc] 41) (.cells #[.string ⟨#[]⟩, .bool false, .slice none 0 0, .slice none 0 0] 37)
  have hs2 : w.heap.size + 1 < ((w.alloc (.cells #[.string name, .slice va vl vc, .slice aa al ac, .slice fa fl fc] 41)).alloc (.cells #[.string ⟨#[]⟩, .bool false, .slice none 0 0, .slice none 0 0] 37)).heap.size := by simp
  have c3 : ((w.alloc (.cells #[.string name, .slice va vl vc, .slice aa al ac, .slice fa fl fc] 41)).alloc (.cells #[.string ⟨#[]⟩, .bool false, .slice none 0 0, .slice none 0 0] 37)).cell? ⟨w.heap.size, 3, none⟩ = some (.slice fa fl fc) := (World.cell?_alloc_past _ _ _ (by simp)).trans (by simp)
  have K54 : Hid _ := k54
  have ROW : Hid _ := row
  have HB2 : Hid _ := hb2
  have HG2 : Hid _ := hg2
  have HS2 : Hid _ := hs2
  have C3 : Hid _ := c3
  clear k54 row hb2 hg2 hs2 c3 hkf hfl
  go_enter Tryd.func64, Tryd.ntmps64
  go_wp2_with (first
    | (go_at_call 51; refine (K54.out _ HB2.out).mono ?_; rintro e w1 ⟨rfl, hb1⟩; have q3 := (hb1.cell (World.block_lt_of_cell? _ _ C3.out)).trans C3.out; have hg1 := (hb1.block _ HS2.out).trans HG2.out; have hb3 := HB2.out.trans (hb1.mono HB2.out.size); obtain ⟨bl, off, rfl, t0, t1, t2, t3⟩ := ROW.out _ hb3; have HG1 : Hid _ := hg1; have HB3 : Hid _ := hb3; clear hb1 hg1 hb3)
    | ((with_reducible show wpList _ _ _ ({ dst := none, op := Op.store 37 _ _, type := _, pos := _, after := _, guard := _ } :: _) _ _); refine wpList_store_row rfl 37 _ _ rfl (w.heap.size + 1) #[.string gn, .bool go, .slice gpa gpl gpc, .slice gba gbl gbc] rfl rfl 37 _ HG1.out sizeFunc rfl (by simp [Value.oneCell']) ?_))
  exact bodyPost_ret (pair results45 _ _ (w.heap.size + 1) #[.string gn, .bool go, .slice gpa gpl gpc, .slice gba gbl gbc] 37 (0, 0) _ rfl rfl (setRow_heap _ _ _ _ _ _ HG1.out) rfl) rfl ⟨rfl, below_row HB3.out (by omega) _⟩

set_option maxHeartbeats 1000000 in
theorem func_none (u : UnitD) (s : ByteArray) (w : World) (hu : UnitLies w u) (hk : placeFrom (funcNames u) s 0 u.fl = -1) :
    Calls Tryd.prog 64 #[.agg #[.string u.name, .slice u.va u.vl u.vc, .slice u.aa u.al u.ac, .slice u.fa u.fl u.fc], .string s] w fun e w' => e = .returned (.tuple #[.agg #[.string ⟨#[]⟩, .bool false, .slice none 0 0, .slice none 0 0], .bool false]) ∧ Below w.heap.size w w' := by
  have k54 : ∀ W, Below w.heap.size w W → _ := fun W hb => func W u.fl u.fc u.fa (funcNames u) s hu.1.2.2.2 (heads (FRow_below hb hu.2.2.2)) (.string u.name) (.slice u.va u.vl u.vc) (.slice u.aa u.al u.ac)
  rw [hk] at k54
  clear hu hk
  obtain ⟨name, va, vl, vc, vs, aa, al, ac, an, az, fa, fl, fc, fs⟩ := u
  dsimp only at *
  have hb2 := below2 w (.cells #[.string name, .slice va vl vc, .slice aa al ac, .slice fa fl fc] 41) (.cells #[.string ⟨#[]⟩, .bool false, .slice none 0 0, .slice none 0 0] 37)
  have hg2 := heap_alloc2_new w (.cells #[.string name, .slice va vl vc, .slice aa al ac, .slice fa fl fc] 41) (.cells #[.string ⟨#[]⟩, .bool false, .slice none 0 0, .slice none 0 0] 37)
  have hs2 : w.heap.size + 1 < ((w.alloc (.cells #[.string name, .slice va vl vc, .slice aa al ac, .slice fa fl fc] 41)).alloc (.cells #[.string ⟨#[]⟩, .bool false, .slice none 0 0, .slice none 0 0] 37)).heap.size := by simp
  have K54 : Hid _ := k54
  have HB2 : Hid _ := hb2
  have HG2 : Hid _ := hg2
  have HS2 : Hid _ := hs2
  clear k54 hb2 hg2 hs2
  go_enter Tryd.func64, Tryd.ntmps64
  go_wp2_with (first
    | (go_at_call 51; refine (K54.out _ HB2.out).mono ?_; rintro e w1 ⟨rfl, hb1⟩; have hg1 := (hb1.block _ HS2.out).trans HG2.out; have hb3 := HB2.out.trans (hb1.mono HB2.out.size); have HG1 : Hid _ := hg1; have HB3 : Hid _ := hb3; clear hb1 hg1 hb3)
    | ((with_reducible show wpList _ _ _ ({ dst := none, op := Op.store 37 _ _, type := _, pos := _, after := _, guard := _ } :: _) _ _); refine wpList_store_row rfl 37 _ _ rfl (w.heap.size + 1) #[.string ⟨#[]⟩, .bool false, .slice none 0 0, .slice none 0 0] rfl rfl 37 _ HG1.out sizeFunc rfl (by simp [Value.oneCell']) ?_))
  exact bodyPost_ret (pair results45 _ _ (w.heap.size + 1) #[.string ⟨#[]⟩, .bool false, .slice none 0 0, .slice none 0 0] 37 (0, 0) _ rfl rfl (setRow_heap _ _ _ _ _ _ HG1.out) rfl) rfl ⟨rfl, below_row HB3.out (by omega) _⟩

/-- both -/
theorem func_of (u : UnitD) (s : ByteArray) (w : World) (hu : UnitLies w u) :
    Calls Tryd.prog 64 #[.agg #[.string u.name, .slice u.va u.vl u.vc, .slice u.aa u.al u.ac, .slice u.fa u.fl u.fc], .string s] w fun e w' => (∃ (g : FuncD) (b : Bool), e = .returned (.tuple #[.agg #[.string g.name, .bool g.op, .slice g.pa g.pl g.pc, .slice g.ba g.bl g.bc], .bool b]) ∧ ((b = true ∧ funcOf u s = some g) ∨ (b = false ∧ funcOf u s = none ∧ g = noFunc))) ∧ Below w.heap.size w w' := by
  rcases place_range (funcNames u) s u.fl 0 with h | ⟨h0, h1⟩
  · have e : funcOf u s = none := by rw [funcOf, if_neg (by omega)]
    exact (func_none u s w hu h).mono fun x w' ⟨hx, hb⟩ => ⟨⟨noFunc, false, hx, .inr ⟨rfl, e, rfl⟩⟩, hb⟩
  · obtain ⟨k, hk⟩ : ∃ k : Nat, placeFrom (funcNames u) s 0 u.fl = k := ⟨(placeFrom (funcNames u) s 0 u.fl).toNat, by omega⟩
    have e : funcOf u s = some (u.fs k) := by rw [funcOf, if_pos (by omega), hk, Int.toNat_natCast]
    exact (func_some u s k w hu hk (by omega) _ rfl).mono fun x w' ⟨hx, hb⟩ => ⟨⟨u.fs k, true, hx, .inl ⟨rfl, e⟩⟩, hb⟩
end Go.Proofs.YtgjemlhnlpglbaaDoor.NScope
