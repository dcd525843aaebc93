/-
  WHAT eval.Copy GIVES: the same cells, in memory of their own (P8.1).
  Conditions: the cells lie there; their lists take no more bytes than ones that are handed in may.
-/
import Derived.Test.YtalnfnkpemojhaaECopyOf
import Derived.Test.YtalnfnkpemojhaaEOpen
namespace Go.Proofs.Ytalnfnkpemojhaa.ECopy
open Go.RowKit ECells ECopied ERows EOpen

theorem infoCells : (Try.prog.info? 57).map (fun i => (i.zero, i.size, i.bytes)) = some (some (.agg #[.slice none 0 0, .slice none 0 0]), 2, 48) := by kernel_rfl

theorem make_cells (n : Nat) (h : n * 48 ≤ 140737488355328) : ∃ M : Array Value, M.size = n * 2 ∧ ∀ W : World, (Instr.makeSlice 26 (.int .i64 n) (.int .i64 n)).run Try.prog W = .ok (.slice (some ⟨W.heap.size, 0, none⟩) n n) (W.alloc (.cells M 57)) := by
  obtain ⟨i0, hi, hz0, hz1, hz2⟩ := info_parts infoCells
  refine ⟨madeCells (Value.agg #[.slice none 0 0, .slice none 0 0]).cells (n * 2), by simp [madeCells], fun W => ?_⟩
  have := run_make (P := Try.prog) W 26 57 i0 (.agg #[.slice none 0 0, .slice none 0 0]) Try.underlying26 hi hz0 .i64 .i64 n n (by omega) (Int.le_refl _) (by rw [hz2]; omega) (by omega)
  rw [hz1] at this
  simpa using this

/-- so many of the cells are copied -/
def CFill (w : World) (B g k : Nat) (C : Nat → CellD) : Prop := ∀ i, i < k → ∃ r q, (w.cell? ⟨g, i * 2, none⟩ = some (.slice r (C i).vl (C i).vl) ∧ w.cell? ⟨g, i * 2 + 1, none⟩ = some (.slice q (C i).al (C i).al)) ∧ New w B r (C i).vl (C i).vs ∧ NRow w B q (C i).al (C i).ll (C i).an

theorem New_set {w : World} {B g o : Nat} (hg : g < B) {ao : Option Addr} {len : Nat} {z : Nat → Int} (h : New w B ao len z) (u : Value) : New (w.setCell ⟨g, o, none⟩ u) B ao len z :=
  New_apart h fun b i hb => by rw [World.cell?_setCell_other (h := fun e => by injection e with e1; omega)]
theorem NRow_set {w : World} {B g o : Nat} (hg : g < B) {ao : Option Addr} {n : Nat} {ll : Nat → Nat} {an : Nat → Nat → Int} (h : NRow w B ao n ll an) (u : Value) : NRow (w.setCell ⟨g, o, none⟩ u) B ao n ll an :=
  NRow_apart h fun b i hb => by rw [World.cell?_setCell_other (h := fun e => by injection e with e1; omega)]
theorem NRow_below {w w' : World} {B : Nat} (hb : Below w.heap.size w w') {ao : Option Addr} {n : Nat} {ll : Nat → Nat} {an : Nat → Nat → Int} (h : NRow w B ao n ll an) : NRow w' B ao n ll an := fun i hi => by
  obtain ⟨bl, off, r, e, h0, t, o⟩ := h i hi
  exact ⟨bl, off, r, e, h0, (hb.cell (World.block_lt_of_cell? w _ t)).trans t, New_below hb o⟩

theorem CFill_below {w w' : World} {B g k : Nat} {C : Nat → CellD} (hb : Below w.heap.size w w') (h : CFill w B g k C) : CFill w' B g k C := fun i hi => by
  obtain ⟨r, q, ⟨t0, t1⟩, o, p⟩ := h i hi
  exact ⟨r, q, ⟨(hb.cell (World.block_lt_of_cell? w _ t0)).trans t0, (hb.cell (World.block_lt_of_cell? w _ t1)).trans t1⟩, New_below hb o, NRow_below hb p⟩

theorem CFill_next {w : World} {B g k : Nat} {C : Nat → CellD} (hg : g < B) {u0 u1 : Value} (h0 : w.cell? ⟨g, k * 2, none⟩ = some u0) (h1 : w.cell? ⟨g, k * 2 + 1, none⟩ = some u1) (h : CFill w B g k C) {r q : Option Addr} (o : New w B r (C k).vl (C k).vs) (p : NRow w B q (C k).al (C k).ll (C k).an) :
    CFill ((w.setCell ⟨g, k * 2, none⟩ (.slice r (C k).vl (C k).vl)).setCell ⟨g, k * 2 + 1, none⟩ (.slice q (C k).al (C k).al)) B g (k + 1) C := fun i hi => by
  have ne : ∀ a b : Nat, a ≠ b → (⟨g, a, none⟩ : Addr) ≠ ⟨g, b, none⟩ := fun a b hab e => hab (by injection e)
  rcases Nat.lt_or_ge i k with hk | hk
  · obtain ⟨r', q', ⟨t0, t1⟩, o', p'⟩ := h i hk
    refine ⟨r', q', ⟨?_, ?_⟩, New_set hg (New_set hg o' _) _, NRow_set hg (NRow_set hg p' _) _⟩
    · rw [World.cell?_setCell_other (h := ne _ _ (by omega)), World.cell?_setCell_other (h := ne _ _ (by omega))]; exact t0
    · rw [World.cell?_setCell_other (h := ne _ _ (by omega)), World.cell?_setCell_other (h := ne _ _ (by omega))]; exact t1
  · obtain rfl : i = k := by omega
    refine ⟨r, q, ⟨?_, World.cell?_setCell_same _ _ _ (u := u1) ?_⟩, New_set hg (New_set hg o _) _, NRow_set hg (NRow_set hg p _) _⟩
    · rw [World.cell?_setCell_other (h := ne _ _ (by omega))]; exact World.cell?_setCell_same _ _ _ h0
    · rw [World.cell?_setCell_other (h := ne _ _ (by omega))]; exact h1

theorem CFill_row {w : World} {B g n : Nat} {C : Nat → CellD} (h : CFill w B g n C) (hl : ∀ i, i < n → ((C i).vl ≤ maxLen ∧ (C i).al ≤ maxLen) ∧ ∀ j, j < (C i).al → (C i).ll j ≤ maxLen) : CRow w (some ⟨g, 0, none⟩) n C := fun i hi => by
  obtain ⟨r, q, ⟨t0, t1⟩, o, p⟩ := h i hi
  refine ⟨g, 0, r, _, q, _, rfl, ⟨by rw [Nat.zero_add]; exact t0, by rw [Nat.zero_add]; exact t1⟩, (hl i hi).1, New_nums o, fun j hj => ?_⟩
  obtain ⟨bl, off, r', e, _, t, o'⟩ := p j hj
  exact ⟨bl, off, r', _, e, t, (hl i hi).2 j hj, New_nums o'⟩

set_option maxHeartbeats 4000000 in
theorem copy (w : World) (la : Option Addr) (n lcap : Nat) (C : Nat → CellD) (h48 : n * 48 ≤ reachBytes) (hs : Sized n C) (hC : CRow w la n C) :
    Calls Try.prog 12 #[.slice la n lcap] w fun e w' => Below w.heap.size w w' ∧ ∃ q, e = .returned (.slice q n n) ∧ CRow w' q n C := by
  have hrb : reachBytes ≤ 140737488355328 := by decide
  obtain ⟨M, hM, hmk⟩ := make_cells n (by omega)
  have kc : ∀ (k : Nat) W va vc aa ac, k < n → Nums W va (C k).vl (C k).vs → IRow W aa (C k).al (C k).ll (C k).an → _ := fun k W va vc aa ac hk h h' => ECopyOf.copyOf W va aa vc ac (C k) (Nat.le_trans (hs k hk).1 hrb) (Nat.le_trans (hs k hk).2.1 hrb) (fun i hi => Nat.le_trans ((hs k hk).2.2 i hi) hrb) h h'
  have hls : ∀ i, i < n → ((C i).vl ≤ maxLen ∧ (C i).al ≤ maxLen) ∧ ∀ j, j < (C i).al → (C i).ll j ≤ maxLen := fun i hi => by
    obtain ⟨_, _, _, _, _, _, _, _, hl, _, ha⟩ := hC i hi
    exact ⟨hl, fun j hj => by obtain ⟨_, _, _, _, _, _, h, _⟩ := ha j hj; exact h⟩
  obtain ⟨w1, ew⟩ : ∃ w1, w1 = w.alloc (.cells M 57) := ⟨_, rfl⟩
  have hb1 : Below w.heap.size w w1 := by rw [ew]; exact (Below.refl _ _).alloc (Nat.le_refl _) _
  have hz1 : w1.heap.size = w.heap.size + 1 := by rw [ew]; simp
  have hr1 : RowAt w1 w.heap.size (n * 2) := by rw [ew, ← hM]; exact RowAt_new w M _
  have HC : Hid (CRow w la n C) := hC
  have KC : Hid _ := kc
  have HLS : Hid _ := hls
  have EW : Hid (w.alloc (.cells M 57) = w1) := ew.symm
  have H1 : Hid (Below w.heap.size w w1) := hb1
  have HZ1 : Hid (w1.heap.size = w.heap.size + 1) := hz1
  have HR1 : Hid (RowAt w1 w.heap.size (n * 2)) := hr1
  have hnI : (n : Int) ≤ 140737488355328 := by omega
  clear kc hls hb1 hz1 hr1 ew hC hs h48 hM hrb
  go_enter Try.func12, Try.ntmps12
  go_wp2
  rw [EW.out]
  go_loopw [11] (fun i wr => ∃ k : Nat, k ≤ n ∧ i = .int .i64 k ∧ Hid (CFill wr w1.heap.size w.heap.size k C) ∧ Hid (RowAt wr w.heap.size (n * 2)) ∧ Hid (Below w.heap.size w wr) ∧ Hid (w1.heap.size ≤ wr.heap.size)) (fun i _ => n - (intOf i).toNat)
  case atStart => exact ⟨0, Nat.zero_le _, rfl, (fun i hi => absurd hi (Nat.not_lt_zero i) : CFill _ _ _ 0 _), HR1, H1, Nat.le_refl _⟩
  case round =>
    revert wr
    intro w7 hrel
    obtain ⟨k, hk, rfl, HF, HR, HB, HS⟩ := hrel
    have hs7 := HB.out.size
    have hz := HZ1.out
    have hs8 := HS.out
    by_cases hkn : k < n
    · obtain ⟨bl, off, va, vc, aa, ac, e2, ⟨s0, s1⟩, _, hv, ha⟩ := CRow_below HB.out HC.out k hkn
      have hkI : (k : Int) < n := by omega
      obtain ⟨wz, ez⟩ : ∃ wz, wz = w7.alloc (.cells #[.slice va (C k).vl vc, .slice aa (C k).al ac] 57) := ⟨_, rfl⟩
      have hbz : Below w7.heap.size w7 wz := by rw [ez]; exact (Below.refl _ _).alloc (Nat.le_refl _) _
      have kk : ∀ W, Below w7.heap.size w7 W → _ := fun W hb => KC.out k W va vc aa ac hkn (Nums_below hb hv) (IRow_below hb ha)
      have EZ : Hid (w7.alloc (.cells #[.slice va (C k).vl vc, .slice aa (C k).al ac] 57) = wz) := ez.symm
      have HBZ : Hid (Below w7.heap.size w7 wz) := hbz
      have FN : Hid (∀ (W : World) (r q : Option Addr) (u0 u1 : Value), W.cell? ⟨w.heap.size, k * 2, none⟩ = some u0 → W.cell? ⟨w.heap.size, k * 2 + 1, none⟩ = some u1 → CFill W w1.heap.size w.heap.size k C → New W w1.heap.size r (C k).vl (C k).vs → NRow W w1.heap.size q (C k).al (C k).ll (C k).an → CFill ((W.setCell ⟨w.heap.size, k * 2, none⟩ (.slice r (C k).vl (C k).vl)).setCell ⟨w.heap.size, k * 2 + 1, none⟩ (.slice q (C k).al (C k).al)) w1.heap.size w.heap.size (k + 1) C) := fun W r q u0 u1 h0 h1 h2 h3 h4 => CFill_next (by omega) h0 h1 h2 h3 h4
      clear hv ha KC HC ez hbz
      generalize (C k).vl = vl at s0 kk EZ FN
      generalize (C k).al = al at s1 kk EZ FN
      generalize (C k).vs = vs at kk FN
      generalize (C k).ll = ll at kk FN
      generalize (C k).an = an at kk FN
      have KK : Hid _ := kk
      clear kk
      subst e2
      go_wp2_with (go_at_call 26; rw [EZ.out]; refine (KK.out _ HBZ.out).mono ?_; rintro e w8 ⟨hb8, r, q, rfl, hn8, hr8⟩; have X8 : Hid (Below w7.heap.size w7 w8) := HBZ.out.trans (hb8.mono HBZ.out.size); have N8 : Hid (New w8 _ r vl vs) := hn8; have R8 : Hid (NRow w8 _ q al ll an) := hr8; have Q8 : Hid _ := RowAt_below X8.out HR.out; obtain ⟨⟨u0, c0⟩, f0⟩ := Q8.out (k * 2) (by omega); obtain ⟨⟨u1, c1⟩, f1⟩ := Q8.out (k * 2 + 1) (by omega); clear hb8 hn8 hr8)
      go_roundw
      case rel =>
        have hz8 : w1.heap.size ≤ wz.heap.size := Nat.le_trans hs8 HBZ.out.size
        exact ⟨k + 1, by omega, by go_num, FN.out w8 r q u0 u1 c0 c1 (CFill_below X8.out HF.out) (New_mono hz8 N8.out) (NRow_mono hz8 R8.out), RowAt_set (RowAt_set Q8.out _ _) _ _, ((HB.out.trans (X8.out.mono hs7)).setCell (p := ⟨w.heap.size, k * 2, none⟩) (Nat.le_refl _) _).setCell (p := ⟨w.heap.size, k * 2 + 1, none⟩) (Nat.le_refl _) _, Nat.le_trans (Nat.le_trans hs8 X8.out.size) (by simp [World.setCell])⟩
      case measure => simp [intOf]; omega
    · obtain rfl : k = n := by omega
      clear KC HC
      go_wp2
      go_ret
      exact ⟨HB.out, _, rfl, CFill_row HF.out HLS.out⟩
end Go.Proofs.Ytalnfnkpemojhaa.ECopy
