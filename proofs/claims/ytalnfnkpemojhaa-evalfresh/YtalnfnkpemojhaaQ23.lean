/-
  THE DOCUMENT's exprSense, OF WHAT ASKS NOBODY: numbers, variables, elements, operations.
  Conditions: the units, the function and the expression's Args lie there.
-/
import Derived.Test.YtalnfnkpemojhaaQ18
namespace Go.Proofs.Ytalnfnkpemojhaa.NRefO4
open Go.RowKit NPlace NPlain NUnits NLists NFind Go.Proofs.Ytalnfnkpemojhaa.Ident Trees Forms NSense NScope NAsk NRefBase

set_option maxHeartbeats 4000000 in
theorem elem_none (w : World) (len pcap : Nat) (pa : Option Addr) (U : Nat → UnitD) (u : UnitD) (f : FuncD) (n : Int) (of s : ByteArray) (ao : Option Addr) (alen acap : Nat) (E : Nat → ETree) (d : Nat) (G : Nat → Int)
    (_ : len ≤ maxLen) (_ : URow w pa len U) (hu : UnitLies w u) (hf : FuncLies w f) (hal : alen ≤ maxLen) (hE : ERow w ao alen E d)
    (h33 : ∀ (k : Nat) (W : World), k < alen → Below w.heap.size w W → Calls Try.prog 47 #[.slice pa len pcap, .agg #[.string u.name, .slice u.va u.vl u.vc, .slice u.aa u.al u.ac, .slice u.fa u.fl u.fc], .agg #[.string f.name, .bool f.op, .slice f.pa f.pl f.pc, .slice f.ba f.bl f.bc], .agg #[.int .i64 (E k []).kind, .int .i64 (E k []).n, .string (E k []).of, .string (E k []).s, .slice (E k []).ao (E k []).len (E k []).cap]] W fun e w' => e = .returned (.int .i64 (G k)) ∧ Below W.heap.size W w') (hr : placeFrom u.an s 0 u.al = -1) :
    Calls Try.prog 47 #[.slice pa len pcap, .agg #[.string u.name, .slice u.va u.vl u.vc, .slice u.aa u.al u.ac, .slice u.fa u.fl u.fc], .agg #[.string f.name, .bool f.op, .slice f.pa f.pl f.pc, .slice f.ba f.bl f.bc], .agg #[.int .i64 3, .int .i64 n, .string of, .string s, .slice ao alen acap]] w fun e w' => e = .returned (.int .i64 5) ∧ Below w.heap.size w w' := by
  have hb3 : Below w.heap.size w (((w.alloc (.cells #[.string u.name, .slice u.va u.vl u.vc, .slice u.aa u.al u.ac, .slice u.fa u.fl u.fc] 38)).alloc (.cells #[.string f.name, .bool f.op, .slice f.pa f.pl f.pc, .slice f.ba f.bl f.bc] 52)).alloc (.cells #[.int .i64 3, .int .i64 n, .string of, .string s, .slice ao alen acap] 85)) := (below2 w _ _).alloc (below2 w _ _).size _
  have bx : ∀ W, Below (((w.alloc (.cells #[.string u.name, .slice u.va u.vl u.vc, .slice u.aa u.al u.ac, .slice u.fa u.fl u.fc] 38)).alloc (.cells #[.string f.name, .bool f.op, .slice f.pa f.pl f.pc, .slice f.ba f.bl f.bc] 52)).alloc (.cells #[.int .i64 3, .int .i64 n, .string of, .string s, .slice ao alen acap] 85)).heap.size (((w.alloc (.cells #[.string u.name, .slice u.va u.vl u.vc, .slice u.aa u.al u.ac, .slice u.fa u.fl u.fc] 38)).alloc (.cells #[.string f.name, .bool f.op, .slice f.pa f.pl f.pc, .slice f.ba f.bl f.bc] 52)).alloc (.cells #[.int .i64 3, .int .i64 n, .string of, .string s, .slice ao alen acap] 85)) W → (W.cell? ⟨w.heap.size, 0, none⟩ = some (.string u.name) ∧ W.cell? ⟨w.heap.size, 1, none⟩ = some (.slice u.va u.vl u.vc) ∧ W.cell? ⟨w.heap.size, 2, none⟩ = some (.slice u.aa u.al u.ac) ∧ W.cell? ⟨w.heap.size, 3, none⟩ = some (.slice u.fa u.fl u.fc)) ∧
      (W.cell? ⟨w.heap.size + 1, 0, none⟩ = some (.string f.name) ∧ W.cell? ⟨w.heap.size + 1, 1, none⟩ = some (.bool f.op) ∧ W.cell? ⟨w.heap.size + 1, 2, none⟩ = some (.slice f.pa f.pl f.pc) ∧ W.cell? ⟨w.heap.size + 1, 3, none⟩ = some (.slice f.ba f.bl f.bc)) ∧
      (W.cell? ⟨w.heap.size + 2, 0, none⟩ = some (.int .i64 3) ∧ W.cell? ⟨w.heap.size + 2, 1, none⟩ = some (.int .i64 n) ∧ W.cell? ⟨w.heap.size + 2, 2, none⟩ = some (.string of) ∧ W.cell? ⟨w.heap.size + 2, 3, none⟩ = some (.string s) ∧ W.cell? ⟨w.heap.size + 2, 4, none⟩ = some (.slice ao alen acap)) := fun W h => three h
  have hal2 := hal
  have hpl := hf.2.1
  have hvl := hu.1.2.1
  have hul := hu.1.2.2.1
  have hfl := hu.1.2.2.2
  obtain ⟨w3, ew⟩ : ∃ w3, w3 = (((w.alloc (.cells #[.string u.name, .slice u.va u.vl u.vc, .slice u.aa u.al u.ac, .slice u.fa u.fl u.fc] 38)).alloc (.cells #[.string f.name, .bool f.op, .slice f.pa f.pl f.pc, .slice f.ba f.bl f.bc] 52)).alloc (.cells #[.int .i64 3, .int .i64 n, .string of, .string s, .slice ao alen acap] 85)) := ⟨_, rfl⟩
  rw [← ew] at hb3 bx
  have EW : Hid ((((w.alloc (.cells #[.string u.name, .slice u.va u.vl u.vc, .slice u.aa u.al u.ac, .slice u.fa u.fl u.fc] 38)).alloc (.cells #[.string f.name, .bool f.op, .slice f.pa f.pl f.pc, .slice f.ba f.bl f.bc] 52)).alloc (.cells #[.int .i64 3, .int .i64 n, .string of, .string s, .slice ao alen acap] 85)) = w3) := ew.symm
  have HB3 : Hid _ := hb3
  have BX : Hid _ := bx
  have K33 : Hid _ := h33
  have HE : Hid (ERow w ao alen E d) := hE
  unfold maxLen at hal2
  have hI : (alen : Int) ≤ 9223372036854775807 := by omega
  have ka : ∀ W, Below w.heap.size w W → _ := fun W h => arrayAt W u.al u.ac u.aa u.an s hu.1.2.2.1 (pairs (ARow_below h hu.2.2.1)) (.string u.name) (.slice u.va u.vl u.vc) (.slice u.fa u.fl u.fc)
  rw [hr] at ka
  have KA : Hid _ := ka
  clear bx hb3 h33 hE hu hf hal hal2 ew ka hr hpl hvl hul hfl
  go_enter Try.func47, Try.ntmps47
  go_wp2_with (go_at_call 46; rw [EW.out]; refine (KA.out _ HB3.out).mono ?_; rintro e w1 ⟨rfl, hb1⟩; obtain ⟨⟨a0, a1, a2, a3⟩, ⟨b0, b1, b2, b3⟩, ⟨c0, c1, c2, c3, c4⟩⟩ := BX.out _ hb1; have HB1 : Hid _ := hb1; clear hb1)
  go_ret
  exact ⟨rfl, HB3.out.trans (HB1.out.mono HB3.out.size)⟩
end Go.Proofs.Ytalnfnkpemojhaa.NRefO4
