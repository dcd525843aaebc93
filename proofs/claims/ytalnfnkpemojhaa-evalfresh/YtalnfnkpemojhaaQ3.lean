/-
  WHAT names.varsOf, arraysOf, paramsOf AND THEIR CLOSURES GIVE: lists of names, told place by place.
  Conditions: the names lie there.
  WHAT names.funcOf AND THE CLOSURE OF names.scopeOf GIVE: the function that is asked.
  Conditions: the units lie there.
  WHAT THE CLOSURE OF names.scopeOf GIVES: the function that is asked, of one's own unit or of another.
  Conditions: the units lie there.
-/
import Derived.Test.YtalnfnkpemojhaaQ2
import Derived.Laws.Rows
import Derived.Laws.Tables
import Derived.Laws.ResultCell
import Derived.Deep.RegionLaw
namespace Go.Proofs.Ytalnfnkpemojhaa.NLists
open Go.RowKit NPlace NUnits Trees

/-- names of things of two cells lie there, each in the first of them -/
def Pairs (w : World) (ao : Option Addr) (len : Nat) (z : Nat → ByteArray) : Prop := ∀ i, i < len → ∃ bl off, ao = some ⟨bl, off, none⟩ ∧ w.cell? ⟨bl, off + i * 2, none⟩ = some (.string (z i))

theorem Pairs_below {w w' : World} (hb : Below w.heap.size w w') {ao : Option Addr} {len : Nat} {z : Nat → ByteArray} (h : Pairs w ao len z) : Pairs w' ao len z := fun i hi => by
  obtain ⟨bl, off, e, t⟩ := h i hi
  exact ⟨bl, off, e, (hb.cell (World.block_lt_of_cell? w _ t)).trans t⟩

theorem pairs {w : World} {ao : Option Addr} {len : Nat} {nm : Nat → ByteArray} {sz : Nat → Int} (h : ARow w ao len nm sz) : Pairs w ao len nm := fun i hi => by
  obtain ⟨⟨bl, off, e, t, _⟩, _⟩ := h i hi
  exact ⟨bl, off, e, t⟩

/-- texts lie there -/
def Texts (w : World) (ao : Option Addr) (len : Nat) (z : Nat → ByteArray) : Prop := ∀ i, i < len → ∃ bl off, ao = some ⟨bl, off, none⟩ ∧ w.cell? ⟨bl, off + i, none⟩ = some (.string (z i))

theorem Texts_below {w w' : World} (hb : Below w.heap.size w w') {ao : Option Addr} {len : Nat} {z : Nat → ByteArray} (h : Texts w ao len z) : Texts w' ao len z := fun i hi => by
  obtain ⟨bl, off, e, t⟩ := h i hi
  exact ⟨bl, off, e, (hb.cell (World.block_lt_of_cell? w _ t)).trans t⟩

theorem texts {w : World} {ao : Option Addr} {len : Nat} {z : Nat → ByteArray} (h : Strs w ao len z) : Texts w ao len z := fun i hi => (h i hi).1

theorem heads {w : World} {ao : Option Addr} {len : Nat} {G : Nat → FuncD} (h : FRow w ao len G) : Heads w ao len fun i => (G i).name := fun i hi => by
  obtain ⟨⟨bl, off, e, t, _⟩, _⟩ := h i hi
  exact ⟨bl, off, e, t⟩

theorem vars_at (w : World) (b len cap i : Nat) (ao : Option Addr) (z : Nat → ByteArray) (hi : i < len) (hc : w.cell? ⟨b, 1, none⟩ = some (.slice ao len cap)) (h : Texts w ao len z) :
    Calls Try.prog 56 #[.int .i64 i, .pointer (some ⟨b, 0, none⟩)] w fun e w' => e = .returned (.string (z i)) ∧ Below w.heap.size w w' := by
  obtain ⟨bl, off, rfl, t⟩ := h i hi
  have hiI : (i : Int) < len := by omega
  clear h
  go_enter Try.func56, Try.ntmps56
  go_wp2
  go_ret
  exact ⟨rfl, Below.refl _ _⟩

theorem vars_made (w : World) (len cap : Nat) (ao : Option Addr) (hl : len ≤ maxLen) (y0 y1 y2 : Value) :
    Calls Try.prog 36 #[.agg #[y0, .slice ao len cap, y1, y2]] w fun e w' => Below w.heap.size w w' ∧ ∃ b, e = .returned (.agg #[.int .i64 len, .func (.func 56) #[] #[.pointer (some ⟨b, 0, none⟩)]]) ∧ w'.cell? ⟨b, 1, none⟩ = some (.slice ao len cap) := by
  have hmf : ∀ (fn : Fn) (first cap : Array Value) (w : World), (Instr.makeFunc fn first cap).run Try.prog w = .ok (.func fn first cap) w := fun _ _ _ _ => rfl
  unfold maxLen at hl
  have hlI : (len : Int) ≤ 9223372036854775807 := by omega
  have hb := below2 w (.cells #[y0, .slice ao len cap, y1, y2] 38) (.cells #[.int .i64 0, .nilFunc] 42)
  have hg := heap_alloc2_new w (.cells #[y0, .slice ao len cap, y1, y2] 38) (.cells #[.int .i64 0, .nilFunc] 42)
  have hc : ((w.alloc (.cells #[y0, .slice ao len cap, y1, y2] 38)).alloc (.cells #[.int .i64 0, .nilFunc] 42)).cell? ⟨w.heap.size, 1, none⟩ = some (.slice ao len cap) := (World.cell?_alloc_past _ _ _ (by simp)).trans (by simp)
  have HB : Hid _ := hb
  have HG : Hid _ := hg
  have HC : Hid _ := hc
  clear hl hb hg hc
  go_enter Try.func36, Try.ntmps36
  go_wp2_with ((with_reducible show wpList _ _ _ ({ dst := none, op := Op.store 42 _ _, type := _, pos := _, after := _, guard := _ } :: _) _ _); refine wpList_store_row rfl 42 _ _ rfl (w.heap.size + 1) #[.int .i64 len, .func (.func 56) #[] #[.pointer (some ⟨w.heap.size, 0, none⟩)]] rfl rfl 42 _ HG.out sizeList rfl (by simp [Value.oneCell']) ?_)
  refine bodyPost_ret (results_cell_row rfl _ _ (w.heap.size + 1) 42 #[.int .i64 len, .func (.func 56) #[] #[.pointer (some ⟨w.heap.size, 0, none⟩)]] (0, 0) _ rfl (setRow_heap _ _ _ _ _ _ HG.out) Try.underlying42 rfl sizeList) rfl ?_
  exact ⟨HB.out.trans ⟨rfl, rfl, rfl, by simp, fun k hk => setRow_other _ _ _ _ (by omega)⟩, w.heap.size, rfl, (cell_setRow_other _ _ _ _ (by simp)).trans HC.out⟩

theorem vars (w : World) (len cap : Nat) (ao : Option Addr) (z : Nat → ByteArray) (hl : len ≤ maxLen) (h : Texts w ao len z) (y0 y1 y2 : Value) :
    Calls Try.prog 36 #[.agg #[y0, .slice ao len cap, y1, y2]] w fun e w' => Below w.heap.size w w' ∧ ∃ b, e = .returned (.agg #[.int .i64 len, .func (.func 56) #[] #[.pointer (some ⟨b, 0, none⟩)]]) ∧ Tells w' 56 #[.pointer (some ⟨b, 0, none⟩)] len z := by
  refine (vars_made w len cap ao hl y0 y1 y2).mono ?_
  rintro e w' ⟨hb, b, rfl, hc⟩
  exact ⟨hb, b, rfl, Try.call56, fun W hW i hi => vars_at W b len cap i ao z hi ((hW.cell (World.block_lt_of_cell? w' _ hc)).trans hc) (Texts_below (hb.trans (hW.mono hb.size)) h)⟩

theorem arrays_at (w : World) (b len cap i : Nat) (ao : Option Addr) (z : Nat → ByteArray) (hi : i < len) (hc : w.cell? ⟨b, 2, none⟩ = some (.slice ao len cap)) (h : Pairs w ao len z) :
    Calls Try.prog 57 #[.int .i64 i, .pointer (some ⟨b, 0, none⟩)] w fun e w' => e = .returned (.string (z i)) ∧ Below w.heap.size w w' := by
  obtain ⟨bl, off, rfl, t⟩ := h i hi
  have hiI : (i : Int) < len := by omega
  clear h
  go_enter Try.func57, Try.ntmps57
  go_wp2
  go_ret
  exact ⟨rfl, Below.refl _ _⟩

theorem arrays_made (w : World) (len cap : Nat) (ao : Option Addr) (hl : len ≤ maxLen) (y0 y1 y2 : Value) :
    Calls Try.prog 37 #[.agg #[y0, y1, .slice ao len cap, y2]] w fun e w' => Below w.heap.size w w' ∧ ∃ b, e = .returned (.agg #[.int .i64 len, .func (.func 57) #[] #[.pointer (some ⟨b, 0, none⟩)]]) ∧ w'.cell? ⟨b, 2, none⟩ = some (.slice ao len cap) := by
  have hmf : ∀ (fn : Fn) (first cap : Array Value) (w : World), (Instr.makeFunc fn first cap).run Try.prog w = .ok (.func fn first cap) w := fun _ _ _ _ => rfl
  unfold maxLen at hl
  have hlI : (len : Int) ≤ 9223372036854775807 := by omega
  have hb := below2 w (.cells #[y0, y1, .slice ao len cap, y2] 38) (.cells #[.int .i64 0, .nilFunc] 42)
  have hg := heap_alloc2_new w (.cells #[y0, y1, .slice ao len cap, y2] 38) (.cells #[.int .i64 0, .nilFunc] 42)
  have hc : ((w.alloc (.cells #[y0, y1, .slice ao len cap, y2] 38)).alloc (.cells #[.int .i64 0, .nilFunc] 42)).cell? ⟨w.heap.size, 2, none⟩ = some (.slice ao len cap) := (World.cell?_alloc_past _ _ _ (by simp)).trans (by simp)
  have HB : Hid _ := hb
  have HG : Hid _ := hg
  have HC : Hid _ := hc
  clear hl hb hg hc
  go_enter Try.func37, Try.ntmps37
  go_wp2_with ((with_reducible show wpList _ _ _ ({ dst := none, op := Op.store 42 _ _, type := _, pos := _, after := _, guard := _ } :: _) _ _); refine wpList_store_row rfl 42 _ _ rfl (w.heap.size + 1) #[.int .i64 len, .func (.func 57) #[] #[.pointer (some ⟨w.heap.size, 0, none⟩)]] rfl rfl 42 _ HG.out sizeList rfl (by simp [Value.oneCell']) ?_)
  refine bodyPost_ret (results_cell_row rfl _ _ (w.heap.size + 1) 42 #[.int .i64 len, .func (.func 57) #[] #[.pointer (some ⟨w.heap.size, 0, none⟩)]] (0, 0) _ rfl (setRow_heap _ _ _ _ _ _ HG.out) Try.underlying42 rfl sizeList) rfl ?_
  exact ⟨HB.out.trans ⟨rfl, rfl, rfl, by simp, fun k hk => setRow_other _ _ _ _ (by omega)⟩, w.heap.size, rfl, (cell_setRow_other _ _ _ _ (by simp)).trans HC.out⟩

theorem arrays (w : World) (len cap : Nat) (ao : Option Addr) (z : Nat → ByteArray) (hl : len ≤ maxLen) (h : Pairs w ao len z) (y0 y1 y2 : Value) :
    Calls Try.prog 37 #[.agg #[y0, y1, .slice ao len cap, y2]] w fun e w' => Below w.heap.size w w' ∧ ∃ b, e = .returned (.agg #[.int .i64 len, .func (.func 57) #[] #[.pointer (some ⟨b, 0, none⟩)]]) ∧ Tells w' 57 #[.pointer (some ⟨b, 0, none⟩)] len z := by
  refine (arrays_made w len cap ao hl y0 y1 y2).mono ?_
  rintro e w' ⟨hb, b, rfl, hc⟩
  exact ⟨hb, b, rfl, Try.call57, fun W hW i hi => arrays_at W b len cap i ao z hi ((hW.cell (World.block_lt_of_cell? w' _ hc)).trans hc) (Pairs_below (hb.trans (hW.mono hb.size)) h)⟩

theorem params_at (w : World) (b len cap i : Nat) (ao : Option Addr) (z : Nat → ByteArray) (hi : i < len) (hc : w.cell? ⟨b, 2, none⟩ = some (.slice ao len cap)) (h : Texts w ao len z) :
    Calls Try.prog 59 #[.int .i64 i, .pointer (some ⟨b, 0, none⟩)] w fun e w' => e = .returned (.string (z i)) ∧ Below w.heap.size w w' := by
  obtain ⟨bl, off, rfl, t⟩ := h i hi
  have hiI : (i : Int) < len := by omega
  clear h
  go_enter Try.func59, Try.ntmps59
  go_wp2
  go_ret
  exact ⟨rfl, Below.refl _ _⟩

theorem params_made (w : World) (len cap : Nat) (ao : Option Addr) (hl : len ≤ maxLen) (y0 y1 y2 : Value) :
    Calls Try.prog 39 #[.agg #[y0, y1, .slice ao len cap, y2]] w fun e w' => Below w.heap.size w w' ∧ ∃ b, e = .returned (.agg #[.int .i64 len, .func (.func 59) #[] #[.pointer (some ⟨b, 0, none⟩)]]) ∧ w'.cell? ⟨b, 2, none⟩ = some (.slice ao len cap) := by
  have hmf : ∀ (fn : Fn) (first cap : Array Value) (w : World), (Instr.makeFunc fn first cap).run Try.prog w = .ok (.func fn first cap) w := fun _ _ _ _ => rfl
  unfold maxLen at hl
  have hlI : (len : Int) ≤ 9223372036854775807 := by omega
  have hb := below2 w (.cells #[y0, y1, .slice ao len cap, y2] 52) (.cells #[.int .i64 0, .nilFunc] 42)
  have hg := heap_alloc2_new w (.cells #[y0, y1, .slice ao len cap, y2] 52) (.cells #[.int .i64 0, .nilFunc] 42)
  have hc : ((w.alloc (.cells #[y0, y1, .slice ao len cap, y2] 52)).alloc (.cells #[.int .i64 0, .nilFunc] 42)).cell? ⟨w.heap.size, 2, none⟩ = some (.slice ao len cap) := (World.cell?_alloc_past _ _ _ (by simp)).trans (by simp)
  have HB : Hid _ := hb
  have HG : Hid _ := hg
  have HC : Hid _ := hc
  clear hl hb hg hc
  go_enter Try.func39, Try.ntmps39
  go_wp2_with ((with_reducible show wpList _ _ _ ({ dst := none, op := Op.store 42 _ _, type := _, pos := _, after := _, guard := _ } :: _) _ _); refine wpList_store_row rfl 42 _ _ rfl (w.heap.size + 1) #[.int .i64 len, .func (.func 59) #[] #[.pointer (some ⟨w.heap.size, 0, none⟩)]] rfl rfl 42 _ HG.out sizeList rfl (by simp [Value.oneCell']) ?_)
  refine bodyPost_ret (results_cell_row rfl _ _ (w.heap.size + 1) 42 #[.int .i64 len, .func (.func 59) #[] #[.pointer (some ⟨w.heap.size, 0, none⟩)]] (0, 0) _ rfl (setRow_heap _ _ _ _ _ _ HG.out) Try.underlying42 rfl sizeList) rfl ?_
  exact ⟨HB.out.trans ⟨rfl, rfl, rfl, by simp, fun k hk => setRow_other _ _ _ _ (by omega)⟩, w.heap.size, rfl, (cell_setRow_other _ _ _ _ (by simp)).trans HC.out⟩

theorem params (w : World) (len cap : Nat) (ao : Option Addr) (z : Nat → ByteArray) (hl : len ≤ maxLen) (h : Texts w ao len z) (y0 y1 y2 : Value) :
    Calls Try.prog 39 #[.agg #[y0, y1, .slice ao len cap, y2]] w fun e w' => Below w.heap.size w w' ∧ ∃ b, e = .returned (.agg #[.int .i64 len, .func (.func 59) #[] #[.pointer (some ⟨b, 0, none⟩)]]) ∧ Tells w' 59 #[.pointer (some ⟨b, 0, none⟩)] len z := by
  refine (params_made w len cap ao hl y0 y1 y2).mono ?_
  rintro e w' ⟨hb, b, rfl, hc⟩
  exact ⟨hb, b, rfl, Try.call59, fun W hW i hi => params_at W b len cap i ao z hi ((hW.cell (World.block_lt_of_cell? w' _ hc)).trans hc) (Texts_below (hb.trans (hW.mono hb.size)) h)⟩
end Go.Proofs.Ytalnfnkpemojhaa.NLists

namespace Go.Proofs.Ytalnfnkpemojhaa.NScope
open Go.RowKit NPlace NPlain NUnits NLists Go.Proofs.Ytalnfnkpemojhaa.Ident Trees NSense

/-- a function's cells -/
def fcells (g : FuncD) : Array Value := #[.string g.name, .bool g.op, .slice g.pa g.pl g.pc, .slice g.ba g.bl g.bc]
def noFunc : FuncD := ⟨⟨#[]⟩, false, none, 0, 0, fun _ => ⟨#[]⟩, none, 0, 0, fun _ _ => ⟨0, ⟨#[]⟩, none, 0, 0, fun _ _ => ⟨0, 0, ⟨#[]⟩, ⟨#[]⟩, none, 0, 0⟩, none, 0, 0, none, 0, 0⟩⟩

theorem sizeFunc : (Try.prog.info? 52).map (·.size) = some 4 := by kernel_rfl

/-- a function that lies in the result's block is handed back -/
theorem pair {f : Func} {i j : Nat} (hf : f.results = #[.cell i 52, .tmp j]) (tmps : Array Value) (w : World) (g : Nat) (cs : Array Value) (t : TypeId) (fr : Nat × Nat) (v : Value) (hp : tmps.getD i undef = .pointer (some ⟨g, 0, none⟩)) (hv : tmps.getD j undef = v) (hg : w.heap[g]? = some (.cells cs t fr)) (hs : cs.size = 4) :
    (results f tmps).run Try.prog w = .ok (.tuple #[.agg cs, v]) w := by
  rw [results_cell_tmp hf, hp, hv]
  have h := run_loadVar_row (P := Try.prog) w g t 52 cs fr _ hg Try.underlying52 rfl (by rw [sizeFunc, hs])
  simp [asAddr, h, Result.andThen]

theorem results45 : Try.f62.results = #[.cell 4 52, .tmp 5] := by kernel_rfl
theorem results44 : Try.f61.results = #[.cell 6 52, .tmp 7] := by kernel_rfl

theorem below_row {B g : Nat} {w0 w : World} (hb : Below B w0 w) (hBg : B ≤ g) (cs : Array Value) : Below B w0 (w.setRow g cs) :=
  hb.trans ⟨rfl, rfl, rfl, by simp [World.setRow], fun k hk => setRow_other w g k cs (by omega)⟩

theorem uheads {w : World} {ao : Option Addr} {len : Nat} {U : Nat → UnitD} (h : URow w ao len U) : Heads w ao len (unitNames U) := fun i hi => by
  obtain ⟨⟨bl, off, e, t, _⟩, _⟩ := h i hi
  exact ⟨bl, off, e, t⟩

set_option maxHeartbeats 1000000 in
theorem func_some (u : UnitD) (s : ByteArray) (k : Nat) (w : World) (hu : UnitLies w u) (hk : placeFrom (funcNames u) s 0 u.fl = k) (hkf : k < u.fl) (g : FuncD) (hg : u.fs k = g) :
    Calls Try.prog 62 #[.agg #[.string u.name, .slice u.va u.vl u.vc, .slice u.aa u.al u.ac, .slice u.fa u.fl u.fc], .string s] w fun e w' => e = .returned (.tuple #[.agg #[.string g.name, .bool g.op, .slice g.pa g.pl g.pc, .slice g.ba g.bl g.bc], .bool true]) ∧ Below w.heap.size w w' := by
  have k54 : ∀ W, Below w.heap.size w W → _ := fun W hb => func W u.fl u.fc u.fa (funcNames u) s hu.1.2.2.2 (heads (FRow_below hb hu.2.2.2)) (.string u.name) (.slice u.va u.vl u.vc) (.slice u.aa u.al u.ac)
  rw [hk] at k54
  have row : ∀ W, Below w.heap.size w W → ∃ bl off, u.fa = some ⟨bl, off, none⟩ ∧ W.cell? ⟨bl, off + k * 4, none⟩ = some (.string g.name) ∧ W.cell? ⟨bl, off + k * 4 + 1, none⟩ = some (.bool g.op) ∧ W.cell? ⟨bl, off + k * 4 + 2, none⟩ = some (.slice g.pa g.pl g.pc) ∧ W.cell? ⟨bl, off + k * 4 + 3, none⟩ = some (.slice g.ba g.bl g.bc) := fun W hb => by
    have h := (FRow_below hb hu.2.2.2 k hkf).1
    rw [hg] at h
    exact h
  have hfl := hu.1.2.2.2
  clear hu hk hg
  obtain ⟨name, va, vl, vc, vs, aa, al, ac, an, az, fa, fl, fc, fs⟩ := u
  obtain ⟨gn, go, gpa, gpl, gpc, gps, gba, gbl, gbc, gb⟩ := g
  dsimp only at *
  unfold maxLen at hfl
  have hkI : (k : Int) < fl := by omega
  have hflI : (fl : Int) ≤ 9223372036854775807 := by omega
  have hb2 := below2 w (.cells #[.string name, .slice va vl vc, .slice aa al ac, .slice fa fl fc] 38) (.cells #[.string ⟨#[]⟩, .bool false, .slice none 0 0, .slice none 0 0] 52)
  have hg2 := heap_alloc2_new w (.cells #[.string name, .slice va vl vc, .slice aa al ac, .slice fa fl fc] 38) (.cells #[.string ⟨#[]⟩, .bool false, .slice none 0 0, .slice none 0 0] 52)
  have hs2 : w.heap.size + 1 < ((w.alloc (.cells #[.string name, .slice va vl vc, .slice aa al ac, .slice fa fl fc] 38)).alloc (.cells #[.string ⟨#[]⟩, .bool false, .slice none 0 0, .slice none 0 0] 52)).heap.size := by simp
  have c3 : ((w.alloc (.cells #[.string name, .slice va vl vc, .slice aa al ac, .slice fa fl fc] 38)).alloc (.cells #[.string ⟨#[]⟩, .bool false, .slice none 0 0, .slice none 0 0] 52)).cell? ⟨w.heap.size, 3, none⟩ = some (.slice fa fl fc) := (World.cell?_alloc_past _ _ _ (by simp)).trans (by simp)
  have K54 : Hid _ := k54
  have ROW : Hid _ := row
  have HB2 : Hid _ := hb2
  have HG2 : Hid _ := hg2
  have HS2 : Hid _ := hs2
  have C3 : Hid _ := c3
  clear k54 row hb2 hg2 hs2 c3 hkf hfl
  go_enter Try.func62, Try.ntmps62
  go_wp2_with (first
    | (go_at_call 72; refine (K54.out _ HB2.out).mono ?_; rintro e w1 ⟨rfl, hb1⟩; have q3 := (hb1.cell (World.block_lt_of_cell? _ _ C3.out)).trans C3.out; have hg1 := (hb1.block _ HS2.out).trans HG2.out; have hb3 := HB2.out.trans (hb1.mono HB2.out.size); obtain ⟨bl, off, rfl, t0, t1, t2, t3⟩ := ROW.out _ hb3; have HG1 : Hid _ := hg1; have HB3 : Hid _ := hb3; clear hb1 hg1 hb3)
    | ((with_reducible show wpList _ _ _ ({ dst := none, op := Op.store 52 _ _, type := _, pos := _, after := _, guard := _ } :: _) _ _); refine wpList_store_row rfl 52 _ _ rfl (w.heap.size + 1) #[.string gn, .bool go, .slice gpa gpl gpc, .slice gba gbl gbc] rfl rfl 52 _ HG1.out sizeFunc rfl (by simp [Value.oneCell']) ?_))
  exact bodyPost_ret (pair results45 _ _ (w.heap.size + 1) #[.string gn, .bool go, .slice gpa gpl gpc, .slice gba gbl gbc] 52 (0, 0) _ rfl rfl (setRow_heap _ _ _ _ _ _ HG1.out) rfl) rfl ⟨rfl, below_row HB3.out (by omega) _⟩

set_option maxHeartbeats 1000000 in
theorem func_none (u : UnitD) (s : ByteArray) (w : World) (hu : UnitLies w u) (hk : placeFrom (funcNames u) s 0 u.fl = -1) :
    Calls Try.prog 62 #[.agg #[.string u.name, .slice u.va u.vl u.vc, .slice u.aa u.al u.ac, .slice u.fa u.fl u.fc], .string s] w fun e w' => e = .returned (.tuple #[.agg #[.string ⟨#[]⟩, .bool false, .slice none 0 0, .slice none 0 0], .bool false]) ∧ Below w.heap.size w w' := by
  have k54 : ∀ W, Below w.heap.size w W → _ := fun W hb => func W u.fl u.fc u.fa (funcNames u) s hu.1.2.2.2 (heads (FRow_below hb hu.2.2.2)) (.string u.name) (.slice u.va u.vl u.vc) (.slice u.aa u.al u.ac)
  rw [hk] at k54
  clear hu hk
  obtain ⟨name, va, vl, vc, vs, aa, al, ac, an, az, fa, fl, fc, fs⟩ := u
  dsimp only at *
  have hb2 := below2 w (.cells #[.string name, .slice va vl vc, .slice aa al ac, .slice fa fl fc] 38) (.cells #[.string ⟨#[]⟩, .bool false, .slice none 0 0, .slice none 0 0] 52)
  have hg2 := heap_alloc2_new w (.cells #[.string name, .slice va vl vc, .slice aa al ac, .slice fa fl fc] 38) (.cells #[.string ⟨#[]⟩, .bool false, .slice none 0 0, .slice none 0 0] 52)
  have hs2 : w.heap.size + 1 < ((w.alloc (.cells #[.string name, .slice va vl vc, .slice aa al ac, .slice fa fl fc] 38)).alloc (.cells #[.string ⟨#[]⟩, .bool false, .slice none 0 0, .slice none 0 0] 52)).heap.size := by simp
  have K54 : Hid _ := k54
  have HB2 : Hid _ := hb2
  have HG2 : Hid _ := hg2
  have HS2 : Hid _ := hs2
  clear k54 hb2 hg2 hs2
  go_enter Try.func62, Try.ntmps62
  go_wp2_with (first
    | (go_at_call 72; refine (K54.out _ HB2.out).mono ?_; rintro e w1 ⟨rfl, hb1⟩; have hg1 := (hb1.block _ HS2.out).trans HG2.out; have hb3 := HB2.out.trans (hb1.mono HB2.out.size); have HG1 : Hid _ := hg1; have HB3 : Hid _ := hb3; clear hb1 hg1 hb3)
    | ((with_reducible show wpList _ _ _ ({ dst := none, op := Op.store 52 _ _, type := _, pos := _, after := _, guard := _ } :: _) _ _); refine wpList_store_row rfl 52 _ _ rfl (w.heap.size + 1) #[.string ⟨#[]⟩, .bool false, .slice none 0 0, .slice none 0 0] rfl rfl 52 _ HG1.out sizeFunc rfl (by simp [Value.oneCell']) ?_))
  exact bodyPost_ret (pair results45 _ _ (w.heap.size + 1) #[.string ⟨#[]⟩, .bool false, .slice none 0 0, .slice none 0 0] 52 (0, 0) _ rfl rfl (setRow_heap _ _ _ _ _ _ HG1.out) rfl) rfl ⟨rfl, below_row HB3.out (by omega) _⟩

/-- both -/
theorem func_of (u : UnitD) (s : ByteArray) (w : World) (hu : UnitLies w u) :
    Calls Try.prog 62 #[.agg #[.string u.name, .slice u.va u.vl u.vc, .slice u.aa u.al u.ac, .slice u.fa u.fl u.fc], .string s] w fun e w' => (∃ (g : FuncD) (b : Bool), e = .returned (.tuple #[.agg #[.string g.name, .bool g.op, .slice g.pa g.pl g.pc, .slice g.ba g.bl g.bc], .bool b]) ∧ ((b = true ∧ funcOf u s = some g) ∨ (b = false ∧ funcOf u s = none ∧ g = noFunc))) ∧ Below w.heap.size w w' := by
  rcases place_range (funcNames u) s u.fl 0 with h | ⟨h0, h1⟩
  · have e : funcOf u s = none := by rw [funcOf, if_neg (by omega)]
    exact (func_none u s w hu h).mono fun x w' ⟨hx, hb⟩ => ⟨⟨noFunc, false, hx, .inr ⟨rfl, e, rfl⟩⟩, hb⟩
  · obtain ⟨k, hk⟩ : ∃ k : Nat, placeFrom (funcNames u) s 0 u.fl = k := ⟨(placeFrom (funcNames u) s 0 u.fl).toNat, by omega⟩
    have e : funcOf u s = some (u.fs k) := by rw [funcOf, if_pos (by omega), hk, Int.toNat_natCast]
    exact (func_some u s k w hu hk (by omega) _ rfl).mono fun x w' ⟨hx, hb⟩ => ⟨⟨u.fs k, true, hx, .inl ⟨rfl, e⟩⟩, hb⟩
end Go.Proofs.Ytalnfnkpemojhaa.NScope

namespace Go.Proofs.Ytalnfnkpemojhaa.NAsk
open Go.RowKit NPlace NPlain NUnits NLists Go.Proofs.Ytalnfnkpemojhaa.Ident Trees NSense NScope

theorem cell_of_heap {w : World} {g i : Nat} {cs : Array Value} {t : TypeId} {v : Value} (h : w.heap[g]? = some (.cells cs t)) (hv : cs[i]? = some v) : w.cell? ⟨g, i, none⟩ = some v := by
  simp [World.cell?, h, hv]

theorem past {w : World} {b i : Nat} {v : Value} (h : w.cell? ⟨b, i, none⟩ = some v) (o : Obj) : (w.alloc o).cell? ⟨b, i, none⟩ = some v := (World.cell?_alloc_past o _ _ (World.block_lt_of_cell? w _ h)).trans h

theorem frozen_past {w : World} {b i : Nat} (h : b < w.heap.size) (hz : w.frozen? ⟨b, i, none⟩ = false) (o : Obj) : (w.alloc o).frozen? ⟨b, i, none⟩ = false :=
  (World.frozen?_of_block (w := w) (a := ⟨b, i, none⟩) (Below.heap_alloc w o b h)).trans hz

theorem below4 {w0 w : World} {B b : Nat} (h : Below B w0 w) (u0 u1 u2 u3 : Value) (hb : B ≤ b := by exact Nat.le_refl _) : Below B w0 ((((w.setCell ⟨b, 0, none⟩ u0).setCell ⟨b, 1, none⟩ u1).setCell ⟨b, 2, none⟩ u2).setCell ⟨b, 3, none⟩ u3) :=
  (((h.setCell (p := ⟨b, 0, none⟩) hb _).setCell (p := ⟨b, 1, none⟩) hb _).setCell (p := ⟨b, 2, none⟩) hb _).setCell (p := ⟨b, 3, none⟩) hb _

set_option maxHeartbeats 1000000 in
theorem own_ (w : World) (ub pb len : Nat) (U : Nat → UnitD) (u : UnitD) (of s : ByteArray) (hc : w.cell? ⟨ub, 0, none⟩ = some (.string u.name) ∧ w.cell? ⟨ub, 1, none⟩ = some (.slice u.va u.vl u.vc) ∧ w.cell? ⟨ub, 2, none⟩ = some (.slice u.aa u.al u.ac) ∧ w.cell? ⟨ub, 3, none⟩ = some (.slice u.fa u.fl u.fc)) (hu : UnitLies w u) (ho : (of.toList == []) = true) :
    Calls Try.prog 61 #[.string of, .string s, .pointer (some ⟨ub, 0, none⟩), .pointer (some ⟨pb, 0, none⟩)] w fun e w' => (∃ (g : FuncD) (b : Bool), e = .returned (.tuple #[.agg #[.string g.name, .bool g.op, .slice g.pa g.pl g.pc, .slice g.ba g.bl g.bc], .bool b]) ∧ ((b = true ∧ asked len U u of s = some g) ∨ (b = false ∧ asked len U u of s = none))) ∧ Below w.heap.size w w' := by
  have EA : Hid (asked len U u of s = funcOf u s) := if_pos ho
  have k45 : ∀ W, Below w.heap.size w W → _ := fun W hb => func_of u s W (UnitLies_below hb hu)
  obtain ⟨c0, c1, c2, c3⟩ := hc
  have hb1 : Below w.heap.size w (w.alloc (.cells #[.string ⟨#[]⟩, .bool false, .slice none 0 0, .slice none 0 0] 52)) := (Below.refl _ _).alloc (Nat.le_refl _) _
  have hg1 : (w.alloc (.cells #[.string ⟨#[]⟩, .bool false, .slice none 0 0, .slice none 0 0] 52)).heap[w.heap.size]? = some (.cells #[.string ⟨#[]⟩, .bool false, .slice none 0 0, .slice none 0 0] 52) := heap_alloc_new _ _
  have hs1 : w.heap.size < (w.alloc (.cells #[.string ⟨#[]⟩, .bool false, .slice none 0 0, .slice none 0 0] 52)).heap.size := by simp
  have d0 := past c0 (.cells #[.string ⟨#[]⟩, .bool false, .slice none 0 0, .slice none 0 0] 52)
  have d1 := past c1 (.cells #[.string ⟨#[]⟩, .bool false, .slice none 0 0, .slice none 0 0] 52)
  have d2 := past c2 (.cells #[.string ⟨#[]⟩, .bool false, .slice none 0 0, .slice none 0 0] 52)
  have d3 := past c3 (.cells #[.string ⟨#[]⟩, .bool false, .slice none 0 0, .slice none 0 0] 52)
  have K45 : Hid _ := k45
  have HB0 : Hid _ := hb1
  have HG0 : Hid _ := hg1
  have HS0 : Hid _ := hs1
  clear hu k45 hb1 hg1 hs1 c0 c1 c2 c3
  go_enter Try.func61, Try.ntmps61
  go_wp2_with (first
    | (go_at_call 62; refine (K45.out _ HB0.out).mono ?_; rintro e w1 ⟨⟨g, b, rfl, hgb⟩, hb2⟩; have HGB : Hid _ := hgb; have hg2 := (hb2.block _ HS0.out).trans HG0.out; have HG1 : Hid _ := hg2; have HB2 : Hid _ := hb2; clear hgb hb2 hg2 d0 d1 d2 d3)
    | ((with_reducible show wpList _ _ _ ({ dst := none, op := Op.store 52 _ _, type := _, pos := _, after := _, guard := _ } :: _) _ _); refine wpList_store_row rfl 52 _ _ rfl w.heap.size #[.string g.name, .bool g.op, .slice g.pa g.pl g.pc, .slice g.ba g.bl g.bc] rfl rfl 52 _ HG1.out sizeFunc rfl (by simp [Value.oneCell']) ?_))
  refine bodyPost_ret (pair results44 _ _ w.heap.size #[.string g.name, .bool g.op, .slice g.pa g.pl g.pc, .slice g.ba g.bl g.bc] 52 (0, 0) _ rfl rfl (setRow_heap _ _ _ _ _ _ HG1.out) rfl) rfl ⟨⟨g, b, rfl, ?_⟩, below_row (HB0.out.trans (HB2.out.mono HB0.out.size)) (Nat.le_refl _) _⟩
  rw [EA.out]
  rcases HGB.out with ⟨h, h'⟩ | ⟨h, h', _⟩
  · exact .inl ⟨h, h'⟩
  · exact .inr ⟨h, h'⟩

set_option maxHeartbeats 1000000 in
theorem no_unit (w : World) (ub pb len pcap : Nat) (pa : Option Addr) (U : Nat → UnitD) (u : UnitD) (of s : ByteArray) (hl : len ≤ maxLen) (hp : w.cell? ⟨pb, 0, none⟩ = some (.slice pa len pcap)) (hU : URow w pa len U) (ho : (of.toList == []) = false) (hn : placeFrom (unitNames U) of 0 len = -1) :
    Calls Try.prog 61 #[.string of, .string s, .pointer (some ⟨ub, 0, none⟩), .pointer (some ⟨pb, 0, none⟩)] w fun e w' => (∃ (g : FuncD) (b : Bool), e = .returned (.tuple #[.agg #[.string g.name, .bool g.op, .slice g.pa g.pl g.pc, .slice g.ba g.bl g.bc], .bool b]) ∧ ((b = true ∧ asked len U u of s = some g) ∨ (b = false ∧ asked len U u of s = none))) ∧ Below w.heap.size w w' := by
  have EA : Hid (asked len U u of s = none) := by rw [asked, if_neg (by rw [ho]; decide), if_neg (by omega)]; exact (rfl : _ = _)
  have k46 : ∀ W, Below w.heap.size w W → _ := fun W hb => unit W len pcap pa (unitNames U) of hl (uheads (URow_below hb hU))
  rw [hn] at k46
  have hb1 : Below w.heap.size w (w.alloc (.cells #[.string ⟨#[]⟩, .bool false, .slice none 0 0, .slice none 0 0] 52)) := (Below.refl _ _).alloc (Nat.le_refl _) _
  have hg1 : (w.alloc (.cells #[.string ⟨#[]⟩, .bool false, .slice none 0 0, .slice none 0 0] 52)).heap[w.heap.size]? = some (.cells #[.string ⟨#[]⟩, .bool false, .slice none 0 0, .slice none 0 0] 52) := heap_alloc_new _ _
  have hs1 : w.heap.size < (w.alloc (.cells #[.string ⟨#[]⟩, .bool false, .slice none 0 0, .slice none 0 0] 52)).heap.size := by simp
  have d0 := past hp (.cells #[.string ⟨#[]⟩, .bool false, .slice none 0 0, .slice none 0 0] 52)
  have K46 : Hid _ := k46
  have HB0 : Hid _ := hb1
  have HG0 : Hid _ := hg1
  have HS0 : Hid _ := hs1
  clear hU k46 hb1 hg1 hs1 hp hl hn
  go_enter Try.func61, Try.ntmps61
  go_wp2_with (first
    | (go_at_call 63; refine (K46.out _ HB0.out).mono ?_; rintro e w1 ⟨rfl, hb2⟩; have hg2 := (hb2.block _ HS0.out).trans HG0.out; have HG1 : Hid _ := hg2; have HB2 : Hid _ := hb2; clear hb2 hg2 d0)
    | ((with_reducible show wpList _ _ _ ({ dst := none, op := Op.store 52 _ _, type := _, pos := _, after := _, guard := _ } :: _) _ _); refine wpList_store_row rfl 52 _ _ rfl w.heap.size #[.string ⟨#[]⟩, .bool false, .slice none 0 0, .slice none 0 0] rfl rfl 52 _ HG1.out sizeFunc rfl (by simp [Value.oneCell']) ?_))
  exact bodyPost_ret (pair results44 _ _ w.heap.size #[.string ⟨#[]⟩, .bool false, .slice none 0 0, .slice none 0 0] 52 (0, 0) _ rfl rfl (setRow_heap _ _ _ _ _ _ HG1.out) rfl) rfl ⟨⟨noFunc, false, rfl, .inr ⟨rfl, EA.out⟩⟩, below_row (HB0.out.trans (HB2.out.mono HB0.out.size)) (Nat.le_refl _) _⟩

set_option maxHeartbeats 2000000 in
theorem of_unit (w : World) (ub pb len pcap : Nat) (pa : Option Addr) (U : Nat → UnitD) (u : UnitD) (of s : ByteArray) (i : Nat) (hl : len ≤ maxLen) (hp : w.cell? ⟨pb, 0, none⟩ = some (.slice pa len pcap)) (hU : URow w pa len U) (ho : (of.toList == []) = false) (hn : placeFrom (unitNames U) of 0 len = i) (hi : i < len) :
    Calls Try.prog 61 #[.string of, .string s, .pointer (some ⟨ub, 0, none⟩), .pointer (some ⟨pb, 0, none⟩)] w fun e w' => (∃ (g : FuncD) (b : Bool), e = .returned (.tuple #[.agg #[.string g.name, .bool g.op, .slice g.pa g.pl g.pc, .slice g.ba g.bl g.bc], .bool b]) ∧ ((b = true ∧ asked len U u of s = some g) ∨ (b = false ∧ asked len U u of s = none))) ∧ Below w.heap.size w w' := by
  have EA : Hid (asked len U u of s = match funcOf (U i) s with | some g => if g.op = true then some g else none | none => none) := by rw [asked, if_neg (by rw [ho]; decide), if_pos (by omega), hn, Int.toNat_natCast]; exact (rfl : _ = _)
  have k46 : ∀ W, Below w.heap.size w W → _ := fun W hb => unit W len pcap pa (unitNames U) of hl (uheads (URow_below hb hU))
  rw [hn] at k46
  have k45 : ∀ W, Below w.heap.size w W → _ := fun W hb => func_of (U i) s W (UnitLies_below hb (hU i hi).2)
  have row : ∀ W, Below w.heap.size w W → _ := fun W hb => (URow_below hb hU i hi).1
  have hiI : (i : Int) < len := by omega
  unfold maxLen at hl
  have hlI : (len : Int) ≤ 9223372036854775807 := by omega
  have hb1 : Below w.heap.size w (w.alloc (.cells #[.string ⟨#[]⟩, .bool false, .slice none 0 0, .slice none 0 0] 52)) := (Below.refl _ _).alloc (Nat.le_refl _) _
  have hg1 : (w.alloc (.cells #[.string ⟨#[]⟩, .bool false, .slice none 0 0, .slice none 0 0] 52)).heap[w.heap.size]? = some (.cells #[.string ⟨#[]⟩, .bool false, .slice none 0 0, .slice none 0 0] 52) := heap_alloc_new _ _
  have hs1 : w.heap.size < (w.alloc (.cells #[.string ⟨#[]⟩, .bool false, .slice none 0 0, .slice none 0 0] 52)).heap.size := by simp
  have d0 := past hp (.cells #[.string ⟨#[]⟩, .bool false, .slice none 0 0, .slice none 0 0] 52)
  generalize funcOf (U i) s = fo at k45 EA
  generalize U i = v at k45 row
  obtain ⟨name, va, vl, vc, vs, aa, al, ac, an, az, fa, fl, fc, fs⟩ := v
  dsimp only at *
  have K46 : Hid _ := k46
  have K45 : Hid _ := k45
  have ROW : Hid _ := row
  have HB0 : Hid _ := hb1
  have HG0 : Hid _ := hg1
  have HS0 : Hid _ := hs1
  have D0 : Hid _ := d0
  clear hU k46 k45 row hb1 hg1 hs1 hp hl hn hi
  go_enter Try.func61, Try.ntmps61
  go_wp2_with (first
    | (go_at_call 63; refine (K46.out _ HB0.out).mono ?_; rintro e w1 ⟨rfl, hb2⟩; have q0 := (hb2.cell (World.block_lt_of_cell? _ _ D0.out)).trans D0.out; have hg2 := (hb2.block _ HS0.out).trans HG0.out; have HG1 : Hid _ := hg2; have hb3 := HB0.out.trans (hb2.mono HB0.out.size); have HB3 : Hid _ := hb3; have hs2 := Nat.lt_of_lt_of_le HS0.out hb2.size; have HS1 : Hid _ := hs2; obtain ⟨bl, off, rfl, t0, t1, t2, t3⟩ := ROW.out _ hb3; clear hb2 hg2 hb3 hs2 d0)
    | (go_at_call 62; refine (K45.out _ HB3.out).mono ?_; rintro e w2 ⟨⟨g, b, rfl, hgb⟩, hb4⟩; have HGB : Hid _ := hgb; have hg3 := (hb4.block _ HS1.out).trans HG1.out; have HG2 : Hid _ := hg3; have hb5 := HB3.out.trans (hb4.mono HB3.out.size); have HB5 : Hid _ := hb5; have hs3 := Nat.lt_of_lt_of_le HS1.out hb4.size; have r0 := past (w := w2) (b := w.heap.size) (i := 0) (cell_of_heap hg3 rfl); have r1 := past (w := w2) (b := w.heap.size) (i := 1) (cell_of_heap hg3 rfl); have r2 := past (w := w2) (b := w.heap.size) (i := 2) (cell_of_heap hg3 rfl); have r3 := past (w := w2) (b := w.heap.size) (i := 3) (cell_of_heap hg3 rfl); have z0 := frozen_past hs3 (frozen_of_row w2 w.heap.size 0 _ 52 hg3); have z1 := frozen_past hs3 (frozen_of_row w2 w.heap.size 1 _ 52 hg3); have z2 := frozen_past hs3 (frozen_of_row w2 w.heap.size 2 _ 52 hg3); have z3 := frozen_past hs3 (frozen_of_row w2 w.heap.size 3 _ 52 hg3); have hne : w2.heap.size ≠ w.heap.size := (by omega); have hne2 : w.heap.size ≠ w2.heap.size := (by omega); have HS3 : Hid _ := hs3; clear hgb hb4 hg3 hb5 hs3 q0 t0 t1 t2 t3; cases b))
  · go_region
    go_wp2
    refine bodyPost_ret (v := .tuple #[.agg #[.string g.name, .bool g.op, .slice g.pa g.pl g.pc, .slice g.ba g.bl g.bc], .bool false]) (by simp [results, Try.results61, go_sem, *]) rfl ⟨⟨g, false, rfl, .inr ⟨rfl, ?_⟩⟩, ?_⟩
    · rw [EA.out]
      rcases HGB.out with ⟨h, _⟩ | ⟨_, h, _⟩
      · cases h
      · rw [h]
    · exact below4 ((HB5.out.alloc HB5.out.size _).drew) _ _ _ _
  · go_region
    go_wp2
    refine bodyPost_ret (v := .tuple #[.agg #[.string g.name, .bool g.op, .slice g.pa g.pl g.pc, .slice g.ba g.bl g.bc], .bool g.op]) (by simp [results, Try.results61, go_sem, *]) rfl ⟨⟨g, g.op, rfl, ?_⟩, ?_⟩
    · rw [EA.out]
      rcases HGB.out with ⟨_, h⟩ | ⟨h, _⟩
      · rw [h]
        by_cases hop : g.op = true
        · exact .inl ⟨hop, if_pos hop⟩
        · exact .inr ⟨by simpa using hop, if_neg hop⟩
      · cases h
    · exact below4 ((HB5.out.alloc HB5.out.size _).drew) _ _ _ _

/-- in every case -/
theorem ask (w : World) (ub pb len pcap : Nat) (pa : Option Addr) (U : Nat → UnitD) (u : UnitD) (of s : ByteArray) (hl : len ≤ maxLen) (hc : w.cell? ⟨ub, 0, none⟩ = some (.string u.name) ∧ w.cell? ⟨ub, 1, none⟩ = some (.slice u.va u.vl u.vc) ∧ w.cell? ⟨ub, 2, none⟩ = some (.slice u.aa u.al u.ac) ∧ w.cell? ⟨ub, 3, none⟩ = some (.slice u.fa u.fl u.fc)) (hu : UnitLies w u) (hp : w.cell? ⟨pb, 0, none⟩ = some (.slice pa len pcap)) (hU : URow w pa len U) :
    Calls Try.prog 61 #[.string of, .string s, .pointer (some ⟨ub, 0, none⟩), .pointer (some ⟨pb, 0, none⟩)] w fun e w' => (∃ (g : FuncD) (b : Bool), e = .returned (.tuple #[.agg #[.string g.name, .bool g.op, .slice g.pa g.pl g.pc, .slice g.ba g.bl g.bc], .bool b]) ∧ ((b = true ∧ asked len U u of s = some g) ∨ (b = false ∧ asked len U u of s = none))) ∧ Below w.heap.size w w' := by
  rcases Bool.eq_false_or_eq_true (of.toList == []) with ho | ho
  · exact own_ w ub pb len U u of s hc hu ho
  · rcases place_range (unitNames U) of len 0 with h | ⟨h0, h1⟩
    · exact no_unit w ub pb len pcap pa U u of s hl hp hU ho h
    · obtain ⟨i, hi⟩ : ∃ i : Nat, placeFrom (unitNames U) of 0 len = i := ⟨(placeFrom (unitNames U) of 0 len).toNat, by omega⟩
      exact of_unit w ub pb len pcap pa U u of s i hl hp hU ho hi (by omega)
end Go.Proofs.Ytalnfnkpemojhaa.NAsk
