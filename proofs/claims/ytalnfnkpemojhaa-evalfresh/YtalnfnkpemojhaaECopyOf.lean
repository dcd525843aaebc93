/-
  WHAT eval.copyOf GIVES: the same cells, in memory of their own.
  Conditions: the cells lie there; their lists take no more bytes than ones that are handed in may.
-/
import Derived.Test.YtalnfnkpemojhaaERows
import Derived.Deep.CutBlock
import Derived.Deep.CutRange
namespace Go.Proofs.Ytalnfnkpemojhaa.ECopyOf
open Go.RowKit ECells ECopied ERows

theorem sizeCells : (Try.prog.info? 57).map (·.size) = some 2 := by kernel_rfl

set_option maxHeartbeats 4000000 in
theorem copyOf (w : World) (va aa : Option Addr) (vc ac : Nat) (C : CellD) (h8 : C.vl * 8 ≤ 140737488355328) (h24 : C.al * 24 ≤ 140737488355328) (hs : ∀ i, i < C.al → C.ll i * 8 ≤ 140737488355328) (hv : Nums w va C.vl C.vs) (hi : IRow w aa C.al C.ll C.an) :
    Calls Try.prog 26 #[.agg #[.slice va C.vl vc, .slice aa C.al ac]] w fun e w' => Below w.heap.size w w' ∧ ∃ r q, e = .returned (.agg #[.slice r C.vl C.vl, .slice q C.al C.al]) ∧ New w' w.heap.size r C.vl C.vs ∧ NRow w' w.heap.size q C.al C.ll C.an := by
  obtain ⟨vl, vs, al, ll, an⟩ := C
  dsimp only at h8 h24 hs hv hi ⊢
  have kv : ∀ W, Below w.heap.size w W → _ := fun W hb => copied W va vl vc vs h8 (Nums_below hb hv)
  have kx : ∀ W r c i, i < al → Nums W r (ll i) (an i) → _ := fun W r c i h h' => copied W r (ll i) c (an i) (hs i h) h'
  obtain ⟨M, hM, hmk⟩ := make_rows al h24
  obtain ⟨w0, ew⟩ : ∃ w0, w0 = (w.alloc (.cells #[.slice va vl vc, .slice aa al ac] 57)).alloc (.cells #[.slice none 0 0, .slice none 0 0] 57) := ⟨_, rfl⟩
  have hb0 : Below w.heap.size w w0 := by rw [ew]; exact ((Below.refl _ _).alloc (Nat.le_refl _) _).alloc (by simp) _
  have hz0 : w0.heap.size = w.heap.size + 2 := by rw [ew]; simp
  have hg0 : w0.heap[w.heap.size + 1]? = some (.cells #[.slice none 0 0, .slice none 0 0] 57) := by rw [ew]; exact heap_alloc2_new w _ _
  have bx : ∀ W, Below w0.heap.size w0 W → W.cell? ⟨w.heap.size, 0, none⟩ = some (.slice va vl vc) ∧ W.cell? ⟨w.heap.size, 1, none⟩ = some (.slice aa al ac) := by
    intro W hb
    have h : ∀ i : Nat, (⟨w.heap.size, i, none⟩ : Addr).block < w0.heap.size := fun i => by rw [ew]; simp; omega
    refine ⟨(hb.cell (h 0)).trans ?_, (hb.cell (h 1)).trans ?_⟩
    · rw [ew, World.cell?_alloc_past _ _ _ (by simp)]; simp
    · rw [ew, World.cell?_alloc_past _ _ _ (by simp)]; simp
  have EW : Hid ((w.alloc (.cells #[.slice va vl vc, .slice aa al ac] 57)).alloc (.cells #[.slice none 0 0, .slice none 0 0] 57) = w0) := ew.symm
  have UP : Hid (Below w.heap.size w w0) := hb0
  have BX : Hid _ := bx
  have KV : Hid _ := kv
  have KX : Hid _ := kx
  have HM : Hid (M.size = al) := hM
  have HI : Hid (IRow w aa al ll an) := hi
  have HZ0 : Hid (w0.heap.size = w.heap.size + 2) := hz0
  have HG0 : Hid (w0.heap[w.heap.size + 1]? = some (.cells #[.slice none 0 0, .slice none 0 0] 57)) := hg0
  have haI : (al : Int) ≤ 140737488355328 := by omega
  clear kv kx bx hb0 ew hv hi h8 h24 hs hM hz0 hg0
  go_enter Try.func26, Try.ntmps26
  go_upto_region 1 with fail
  rw [EW.out]
  go_cut [3] from 6 (fun s3 wx => Pack w0 wx s3 al vl vs)
  case first =>
    clear KX HI HZ0 HG0
    go_region_held3 (fun W => W.cell? ⟨w.heap.size, 0, none⟩ = some (.slice va vl vc) ∧ W.cell? ⟨w.heap.size, 1, none⟩ = some (.slice aa al ac))
      ((refine BX.out _ ?_; (repeat (first | (with_reducible exact H5.out) | (with_reducible exact Below.refl _ _) | (with_reducible refine Below.drew ?_) | (with_reducible refine Below.alloc ?_ (by first | omega | (simp; omega) | simp) _) | (with_reducible refine Below.setCell ?_ (by first | omega | (simp; omega) | simp) _)))))
      (first
      | (go_at_call 48; refine (KV.out _ (UP.out.trans (Below.mono (by (repeat (first | (with_reducible exact H5.out) | (with_reducible exact Below.refl _ _) | (with_reducible refine Below.drew ?_) | (with_reducible refine Below.alloc ?_ (by first | omega | (simp; omega) | simp) _) | (with_reducible refine Below.setCell ?_ (by first | omega | (simp; omega) | simp) _)))) UP.out.size))).mono ?_; rintro e w5 ⟨hb5, r, rfl, hn5⟩; have H5 : Hid (Below w0.heap.size w0 w5) := Below.trans (by (repeat (first | (with_reducible exact H5.out) | (with_reducible exact Below.refl _ _) | (with_reducible refine Below.drew ?_) | (with_reducible refine Below.alloc ?_ (by first | omega | (simp; omega) | simp) _) | (with_reducible refine Below.setCell ?_ (by first | omega | (simp; omega) | simp) _)))) (hb5.mono (by first | omega | (simp; omega) | simp)); have hs5 : w0.heap.size ≤ w5.heap.size := H5.out.size; have hs6 := hb5.size; simp at hs6; have N5 : Hid (New w5 _ r vl vs) := hn5; have X5 : Hid _ := undrew hb5; clear hb5 hn5; (first | (have hz := ZAt_row (RowAt_below X5.out (two_new w0 _ _ _)); have hz2 : ZAt w5 w0.heap.size := (by first | exact hz | simpa using hz); obtain ⟨⟨_, d0⟩, ⟨_, d1⟩, f0, f1⟩ := hz2; clear hz; have hy := ZAt_row (RowAt_alloc (RowAt_below X5.out (two_new w0 _ _ _)) (.cells M 54)); have hy2 : ZAt (w5.alloc (.cells M 54)) w0.heap.size := hy; obtain ⟨⟨_, e0⟩, ⟨_, e1⟩, f2, f3⟩ := hy2; clear hy) | (have hz := ZAt_row (RowAt_below X5.out (RowAt_alloc (two_new w0 _ _ _) _)); have hz2 : ZAt w5 w0.heap.size := (by first | exact hz | simpa using hz); obtain ⟨⟨_, d0⟩, ⟨_, d1⟩, f0, f1⟩ := hz2; clear hz) | (have hz := ZAt_row (RowAt_below X5.out (two_new (w0.alloc (.cells M 54)) _ _ _)); have hz2 : ZAt w5 (w0.heap.size + 1) := (by first | exact hz | simpa using hz); obtain ⟨⟨_, d0⟩, ⟨_, d1⟩, f0, f1⟩ := hz2; clear hz) | skip))
      | fail)
    all_goals
      go_wp2_with fail
      go_meet
      first
        | (with_reducible exact packA H5.out HM.out N5.out (by simp))
        | (with_reducible exact packB H5.out HM.out N5.out (by simp))
        | (with_reducible exact packC H5.out X5.out HM.out N5.out (by simp))
        | (with_reducible exact packD H5.out X5.out HM.out N5.out (by simp))
        | (with_reducible exact packE H5.out X5.out HM.out N5.out (by simp))
        | (with_reducible exact packF H5.out X5.out HM.out N5.out (by simp))
  case rest =>
    obtain ⟨g, d, r, rfl, hgd, ⟨hg, hd⟩, hbx, hrow, ⟨hd0, hd1⟩, hoff⟩ := hcut
    have HBX : Hid _ := hbx
    have HROW : Hid _ := hrow
    have HD : Hid _ := And.intro hd0 hd1
    have HOFF : Hid _ := hoff
    obtain ⟨q0, q1⟩ := BX.out _ hbx
    clear hbx hrow hd0 hd1 hoff HM hmk KV
    go_wp2
    clear q0 q1
    go_loopw [17] (fun i wr => ∃ k : Nat, k ≤ al ∧ i = .int .i64 k ∧ Hid (Fill wr w0.heap.size (bad2 g d) g k ll an) ∧ Hid (RowAt wr g al) ∧ Hid (wr.cell? ⟨d, 0, none⟩ = some (.slice r vl vl) ∧ wr.cell? ⟨d, 1, none⟩ = some (.slice (some ⟨g, 0, none⟩) al al)) ∧ Hid (Off wr w0.heap.size (bad2 g d) r vl vs) ∧ Hid (Below w0.heap.size w0 wr)) (fun i _ => al - (intOf i).toNat)
    case atStart => exact ⟨0, Nat.zero_le _, rfl, (fun i hi => absurd hi (Nat.not_lt_zero i) : Fill _ _ _ _ 0 _ _), HROW, HD, HOFF, HBX⟩
    case round =>
      clear HROW HD HOFF HBX
      revert wr
      intro w7 hrel
      obtain ⟨k, hk, rfl, HF, HR, HD, HO, HB⟩ := hrel
      have hs7 := HB.out.size
      by_cases hka : k < al
      · obtain ⟨bl, off, rk, ck, e2, t, _, hn⟩ := IRow_below (UP.out.trans (HB.out.mono UP.out.size)) HI.out k hka
        have hkI : (k : Int) < al := by omega
        have kk : ∀ W, Below w7.heap.size w7 W → _ := fun W hb => KX.out W rk ck k hka (Nums_below hb hn)
        have fn : ∀ (W : World) (q : Option Addr) (u : Value), bad2 g d g → W.cell? ⟨g, k, none⟩ = some u → Fill W w0.heap.size (bad2 g d) g k ll an → Off W w0.heap.size (bad2 g d) q (ll k) (an k) → Fill (W.setCell ⟨g, k, none⟩ (.slice q (ll k) (ll k))) w0.heap.size (bad2 g d) g (k + 1) ll an := fun W q u h1 h2 h3 h4 => Fill_next h1 h2 h3 h4
        generalize ll k = m at kk t fn
        generalize an k = z at kk fn
        have KK : Hid _ := kk
        have FN : Hid _ := fn
        have gb : g < w7.heap.size := by
          obtain ⟨⟨v, hv⟩, _⟩ := HR.out k hka
          exact World.block_lt_of_cell? w7 _ hv
        have db : d < w7.heap.size := World.block_lt_of_cell? w7 _ HD.out.1
        clear kk fn hn KX HI
        subst e2
        go_wp2
        clear t
        go_region_held3 (fun W => W.cell? ⟨d, 1, none⟩ = some (.slice (some ⟨g, 0, none⟩) al al))
          (first | (with_reducible exact HD8.out.2) | (exact HD.out.2) | (rw [World.cell?_setCell_other (h := fun e => by injection e with e1; omega)]; exact HD8.out.2))
          (first
          | (go_at_call 48; refine (KK.out _ (Below.refl _ _).drew).mono ?_; rintro e w8 ⟨hb8, q, rfl, hn8⟩; have X8 : Hid (Below w7.heap.size w7 w8) := (Below.refl w7.heap.size w7).drew.trans hb8; have N8 : Hid (New w8 _ q m z) := hn8; have HD8 : Hid (w8.cell? ⟨d, 0, none⟩ = some (.slice r vl vl) ∧ w8.cell? ⟨d, 1, none⟩ = some (.slice (some ⟨g, 0, none⟩) al al)) := ⟨(X8.out.cell (p := ⟨d, 0, none⟩) db).trans HD.out.1, (X8.out.cell (p := ⟨d, 1, none⟩) db).trans HD.out.2⟩; have R8 : Hid _ := RowAt_below X8.out HR.out; obtain ⟨⟨u8, c8⟩, f8⟩ := R8.out k hka; clear hb8 hn8)
          | fail)
        all_goals
          go_wp2
          go_roundw
          case rel => exact ⟨k + 1, by omega, by go_num, FN.out w8 q u8 (.inl rfl) c8 (Fill_below X8.out HF.out) (Off_new hs7 (fun b h1 _ h3 => by rcases h3 with h3 | h3 <;> (have : w7.heap.size ≤ b := h1; omega)) N8.out), RowAt_set R8.out _ _, ⟨by rw [World.cell?_setCell_other (h := fun e => by injection e with e1; omega)]; exact HD8.out.1, by rw [World.cell?_setCell_other (h := fun e => by injection e with e1; omega)]; exact HD8.out.2⟩, Off_set (Off_below X8.out HO.out) (.inl rfl) _, (HB.out.trans (X8.out.mono hs7)).setCell hg _⟩
          case measure => simp [intOf]; omega
      · obtain rfl : k = al := by omega
        obtain ⟨d0, d1⟩ := HD.out
        have hg8 : w7.heap[w.heap.size + 1]? = some (.cells #[.slice none 0 0, .slice none 0 0] 57) := (HB.out.block _ (by rw [HZ0.out]; omega)).trans HG0.out
        have HG8 : Hid _ := hg8
        clear KX HI HR hg8
        go_wp2_with ((with_reducible show wpList _ _ _ ({ dst := none, op := Op.store 57 _ _, type := _, pos := _, after := _, guard := _ } :: _) _ _); refine wpList_store_row rfl 57 _ _ rfl (w.heap.size + 1) #[.slice r vl vl, .slice (some ⟨g, 0, none⟩) k k] rfl rfl 57 _ HG8.out sizeCells rfl (by simp [Value.oneCell']) ?_)
        refine bodyPost_ret (results_cell_row rfl _ _ (w.heap.size + 1) 57 #[.slice r vl vl, .slice (some ⟨g, 0, none⟩) k k] (0, 0) _ rfl (setRow_heap _ _ _ _ _ _ HG8.out) Try.underlying57 rfl sizeCells) rfl ?_
        have ap : ∀ b i, w0.heap.size ≤ b → (w7.setRow (w.heap.size + 1) #[.slice r vl vl, .slice (some ⟨g, 0, none⟩) k k]).cell? ⟨b, i, none⟩ = w7.cell? ⟨b, i, none⟩ := fun b i hb => cell_setRow_other _ _ _ _ (by have := HZ0.out; show b ≠ _; omega)
        have hB := UP.out.trans (HB.out.mono UP.out.size)
        exact ⟨hB.trans ⟨rfl, rfl, rfl, by simp, fun i hi => setRow_other _ _ _ _ (by omega)⟩, _, _, rfl, New_mono UP.out.size (New_apart (Off_new' HO.out) ap), NRow_mono UP.out.size (NRow_apart (Fill_row hg HF.out) ap)⟩
end Go.Proofs.Ytalnfnkpemojhaa.ECopyOf
