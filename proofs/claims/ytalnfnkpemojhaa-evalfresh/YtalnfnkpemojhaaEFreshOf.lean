/-
  WHAT eval.freshOf GIVES: a unit's cells, all 0, in memory of their own.
  Conditions: the unit lies there; it has few and small arrays.
-/
import Derived.Test.YtalnfnkpemojhaaEFreshRows
import Derived.Test.YtalnfnkpemojhaaQTop
import Derived.Deep.CutBlock
import Derived.Deep.CutRange
namespace Go.Proofs.Ytalnfnkpemojhaa.EFreshOf
open Go.RowKit ECells ECopied ERows EFreshRows Trees NUnits NAsk

theorem sizeCells : (Try.prog.info? 57).map (·.size) = some 2 := by kernel_rfl

/-- a unit's cells, all 0 -/
def fresh (u : UnitD) : CellD := ⟨u.vl, fun _ => 0, u.al, fun j => (u.az j).toNat, fun _ _ => 0⟩

theorem unit_box {w W : World} {t t' : TypeId} {u0 u1 u2 u3 v0 v1 : Value} (hb : Below ((w.alloc (.cells #[u0, u1, u2, u3] t)).alloc (.cells #[v0, v1] t')).heap.size ((w.alloc (.cells #[u0, u1, u2, u3] t)).alloc (.cells #[v0, v1] t')) W) :
    W.cell? ⟨w.heap.size, 0, none⟩ = some u0 ∧ W.cell? ⟨w.heap.size, 1, none⟩ = some u1 ∧ W.cell? ⟨w.heap.size, 2, none⟩ = some u2 ∧ W.cell? ⟨w.heap.size, 3, none⟩ = some u3 := by
  have h0 : ∀ i : Nat, (⟨w.heap.size, i, none⟩ : Addr).block < ((w.alloc (.cells #[u0, u1, u2, u3] t)).alloc (.cells #[v0, v1] t')).heap.size := fun i => by simp; omega
  refine ⟨(hb.cell (h0 0)).trans ?_, (hb.cell (h0 1)).trans ?_, (hb.cell (h0 2)).trans ?_, (hb.cell (h0 3)).trans ?_⟩
  · exact past (by simp) _
  · exact past (by simp) _
  · exact past (by simp) _
  · exact past (by simp) _

/-- a store into another object, and the draw behind it, leave a cell be -/
theorem cell_set_drew {W : World} {b c j i : Nat} (v : Value) (h : c ≠ b) : ((W.setCell ⟨b, j, none⟩ v).drew).cell? ⟨c, i, none⟩ = W.cell? ⟨c, i, none⟩ := by
  have := World.cell?_setCell_other W ⟨b, j, none⟩ ⟨c, i, none⟩ v (fun e => by injection e with e1; omega)
  exact this

set_option maxHeartbeats 4000000 in
theorem freshOf (w : World) (u : UnitD) (hu : UnitLies w u) (hvl : u.vl ≤ 8) (hal : u.al ≤ 3) (hz : ∀ i, i < u.al → 1 ≤ u.az i ∧ u.az i ≤ 10) :
    Calls Try.prog 24 #[.agg #[.string u.name, .slice u.va u.vl u.vc, .slice u.aa u.al u.ac, .slice u.fa u.fl u.fc]] w fun e w' => Below w.heap.size w w' ∧ ∃ r q, e = .returned (.agg #[.slice r u.vl u.vl, .slice q u.al u.al]) ∧ New w' w.heap.size r u.vl (fun _ => 0) ∧ NRow w' w.heap.size q u.al (fun j => (u.az j).toNat) (fun _ _ => 0) := by
  obtain ⟨V, hV, hV0, hmv⟩ := make_ints u.vl (by omega)
  obtain ⟨M, hM, hmk⟩ := make_rows u.al (by omega)
  have mz : ∀ m : Nat, m ≤ 10 → _ := fun m h => make_ints m (by omega)
  obtain ⟨R, eR⟩ : ∃ R : Nat → Nat, R = fun j => (u.az j).toNat := ⟨_, rfl⟩
  have HRJ : Hid (∀ j, j < u.al → u.az j = (R j : Int) ∧ R j ≤ 10) := fun j hj => by
    obtain ⟨h1, h2⟩ := hz j hj
    rw [eR]
    exact ⟨by show u.az j = ((u.az j).toNat : Int); omega, by show (u.az j).toNat ≤ 10; omega⟩
  rw [← eR]
  obtain ⟨w0, ew⟩ : ∃ w0, w0 = (w.alloc (.cells #[.string u.name, .slice u.va u.vl u.vc, .slice u.aa u.al u.ac, .slice u.fa u.fl u.fc] 38)).alloc (.cells #[.slice none 0 0, .slice none 0 0] 57) := ⟨_, rfl⟩
  have hb0 : Below w.heap.size w w0 := by rw [ew]; exact below2 w _ _
  have hz0 : w0.heap.size = w.heap.size + 2 := by rw [ew]; simp
  have hg0 : w0.heap[w.heap.size + 1]? = some (.cells #[.slice none 0 0, .slice none 0 0] 57) := by rw [ew]; exact heap_alloc2_new w _ _
  have bx : ∀ W, Below w0.heap.size w0 W → W.cell? ⟨w.heap.size, 0, none⟩ = some (.string u.name) ∧ W.cell? ⟨w.heap.size, 1, none⟩ = some (.slice u.va u.vl u.vc) ∧ W.cell? ⟨w.heap.size, 2, none⟩ = some (.slice u.aa u.al u.ac) ∧ W.cell? ⟨w.heap.size, 3, none⟩ = some (.slice u.fa u.fl u.fc) := by
    rw [ew]
    exact fun W hb => unit_box hb
  have EW : Hid ((w.alloc (.cells #[.string u.name, .slice u.va u.vl u.vc, .slice u.aa u.al u.ac, .slice u.fa u.fl u.fc] 38)).alloc (.cells #[.slice none 0 0, .slice none 0 0] 57) = w0) := ew.symm
  have UP : Hid (Below w.heap.size w w0) := hb0
  have BX : Hid _ := bx
  have MZ : Hid _ := mz
  have HM : Hid (M.size = u.al) := hM
  have HV : Hid (V.size = u.vl) := hV
  have HV0 : Hid (∀ i, i < u.vl → V[i]? = some (.int .i64 0)) := hV0
  have HA : Hid (ARow w u.aa u.al u.an u.az) := hu.2.2.1
  have HZ0 : Hid (w0.heap.size = w.heap.size + 2) := hz0
  have HG0 : Hid (w0.heap[w.heap.size + 1]? = some (.cells #[.slice none 0 0, .slice none 0 0] 57)) := hg0
  have hvI : (u.vl : Int) ≤ 8 := by omega
  have haI : (u.al : Int) ≤ 3 := by omega
  clear mz bx hb0 ew hu hvl hal hz hV hV0 hM hz0 hg0 eR
  go_enter Try.func24, Try.ntmps24
  go_upto_region 1 with fail
  rw [EW.out]
  go_cut [3] from 6 (fun s3 wx => Pack w0 wx s3 u.al u.vl fun _ => 0)
  case first =>
    clear MZ HA HRJ HZ0 HG0
    go_region_held3 (fun W => W.cell? ⟨w.heap.size, 0, none⟩ = some (.string u.name) ∧ W.cell? ⟨w.heap.size, 1, none⟩ = some (.slice u.va u.vl u.vc) ∧ W.cell? ⟨w.heap.size, 2, none⟩ = some (.slice u.aa u.al u.ac) ∧ W.cell? ⟨w.heap.size, 3, none⟩ = some (.slice u.fa u.fl u.fc))
      ((refine BX.out _ ?_; (repeat (first | (with_reducible exact Below.refl _ _) | (with_reducible refine Below.drew ?_) | (with_reducible refine Below.alloc ?_ (by first | omega | (simp; omega) | simp) _) | (with_reducible refine Below.setCell ?_ (by first | omega | (simp; omega) | simp) _)))))
      (fail)
    all_goals
      go_wp2_with fail
      go_meet
      first
        | (with_reducible exact pkVMD HM.out HV.out HV0.out)
        | (with_reducible exact pkVDM HM.out HV.out HV0.out)
        | (with_reducible exact pkMVD HM.out HV.out HV0.out)
        | (with_reducible exact pkMDV HM.out HV.out HV0.out)
        | (with_reducible exact pkDVM HM.out HV.out HV0.out)
        | (with_reducible exact pkDMV HM.out HV.out HV0.out)
  case rest =>
    obtain ⟨g, d, r, rfl, hgd, ⟨hg, hd⟩, hbx, hrow, ⟨hd0, hd1⟩, hoff⟩ := hcut
    have HBX : Hid (Below w0.heap.size w0 wc) := hbx
    have HROW : Hid (RowAt wc g u.al) := hrow
    have HD : Hid _ := And.intro hd0 hd1
    have HOFF : Hid (Off wc w0.heap.size (bad2 g d) r u.vl fun _ => 0) := hoff
    obtain ⟨q0, q1, q2, q3⟩ := BX.out _ hbx
    clear hbx hrow hd0 hd1 hoff HM HV HV0 hmk hmv
    go_wp2
    clear q0 q1 q2 q3
    go_loopw [18] (fun i wr => ∃ k : Nat, k ≤ u.al ∧ i = .int .i64 k ∧ Hid (Fill wr w0.heap.size (bad2 g d) g k R (fun _ _ => 0)) ∧ Hid (RowAt wr g u.al) ∧ Hid (wr.cell? ⟨d, 0, none⟩ = some (.slice r u.vl u.vl) ∧ wr.cell? ⟨d, 1, none⟩ = some (.slice (some ⟨g, 0, none⟩) u.al u.al)) ∧ Hid (Off wr w0.heap.size (bad2 g d) r u.vl fun _ => 0) ∧ Hid (Below w0.heap.size w0 wr)) (fun i _ => u.al - (intOf i).toNat)
    case atStart => exact ⟨0, Nat.zero_le _, rfl, (fun i hi => absurd hi (Nat.not_lt_zero i) : Fill _ _ _ _ 0 _ _), HROW, HD, HOFF, HBX⟩
    case round =>
      clear HROW HD HOFF HBX
      revert wr
      intro w7 hrel
      obtain ⟨k, hk, rfl, HF, HR, HD, HO, HB⟩ := hrel
      have hs7 := HB.out.size
      by_cases hka : k < u.al
      · obtain ⟨⟨bl, off, e2, t0, t1⟩, _⟩ := ARow_below (UP.out.trans (HB.out.mono UP.out.size)) HA.out k hka
        have hkI : (k : Int) < u.al := by omega
        obtain ⟨em, hm⟩ := HRJ.out k hka
        obtain ⟨Vm, hVm, hV0, hmm⟩ := MZ.out (R k) hm
        rw [em] at t1
        obtain ⟨wz, ez⟩ : ∃ wz, wz = w7.alloc (.cells #[.string (u.an k), .int .i64 (R k)] 49) := ⟨_, rfl⟩
        have hbz : Below w7.heap.size w7 wz := by rw [ez]; exact (Below.refl _ _).alloc (Nat.le_refl _) _
        have gb : g < w7.heap.size := by
          obtain ⟨⟨v, hv⟩, _⟩ := HR.out k hka
          exact World.block_lt_of_cell? w7 _ hv
        have db : d < w7.heap.size := World.block_lt_of_cell? w7 _ HD.out.1
        have hsz : w7.heap.size ≤ wz.heap.size := hbz.size
        have bs : ∀ W, Below wz.heap.size wz W → W.cell? ⟨d, 1, none⟩ = some (.slice (some ⟨g, 0, none⟩) u.al u.al) ∧ W.cell? ⟨w7.heap.size, 1, none⟩ = some (.int .i64 (R k)) := fun W hb => by
          refine ⟨((hbz.trans (hb.mono hsz)).cell (p := ⟨d, 1, none⟩) db).trans HD.out.2, (hb.cell (p := ⟨w7.heap.size, 1, none⟩) (by rw [ez]; simp)).trans (by rw [ez]; simp)⟩
        have EZ : Hid (w7.alloc (.cells #[.string (u.an k), .int .i64 (R k)] 49) = wz) := ez.symm
        have HBZ : Hid (Below w7.heap.size w7 wz) := hbz
        have BS : Hid _ := bs
        have Q8 : Hid (RowAt wz g u.al) := RowAt_below hbz HR.out
        obtain ⟨⟨u8, c8⟩, f8⟩ := Q8.out k hka
        have c9 : ∀ o, (wz.alloc o).cell? ⟨g, k, none⟩ = some u8 := fun o => (World.cell?_alloc_past o _ _ (World.block_lt_of_cell? wz _ c8)).trans c8
        have f9 : ∀ o, (wz.alloc o).frozen? ⟨g, k, none⟩ = false := fun o => frozen_past (World.block_lt_of_cell? wz _ c8) f8 o
        have NZ : Hid (New (wz.alloc (.cells Vm 3)) wz.heap.size (some ⟨wz.heap.size, 0, none⟩) (R k) fun _ => 0) := new_zeros (Nat.le_refl _) hV0 (heap_alloc_new wz _)
        have FN : Hid (∀ (W : World) (q : Option Addr) (v : Value), W.cell? ⟨g, k, none⟩ = some v → Fill W w0.heap.size (bad2 g d) g k R (fun _ _ => 0) → Off W w0.heap.size (bad2 g d) q (R k) (fun _ => 0) → Fill (W.setCell ⟨g, k, none⟩ (.slice q (R k) (R k))) w0.heap.size (bad2 g d) g (k + 1) R fun _ _ => 0) := fun W q v h1 h2 h3 => Fill_next (.inl rfl) h1 h2 h3
        have hmI : ((R k : Nat) : Int) ≤ 10 := by omega
        clear ez hbz bs hV0 hVm hm em MZ HRJ HA
        generalize u.an k = nm at *
        generalize R k = m at *
        generalize u.aa = uaa at *
        subst e2
        go_wp2
        rw [EZ.out]
        clear t0 t1
        go_region_held3 (fun W => W.cell? ⟨d, 1, none⟩ = some (.slice (some ⟨g, 0, none⟩) u.al u.al) ∧ W.cell? ⟨w7.heap.size, 1, none⟩ = some (.int .i64 m))
          (first | (with_reducible exact BS.out _ (Below.refl _ _)) | (with_reducible exact BS.out _ (Below.refl _ _).drew) | (with_reducible exact BS.out _ ((Below.refl _ _).alloc (Nat.le_refl _) _)) | (with_reducible exact BS.out _ ((Below.refl _ _).alloc (Nat.le_refl _) _).drew) | exact ⟨(cell_set_drew _ (by omega)).trans (BS.out _ ((Below.refl _ _).alloc (Nat.le_refl _) _)).1, (cell_set_drew _ (by omega)).trans (BS.out _ ((Below.refl _ _).alloc (Nat.le_refl _) _)).2⟩)
          (fail)
        all_goals
          go_wp2
          go_roundw
          case rel =>
            have hX : Below w7.heap.size w7 (wz.alloc (.cells Vm 3)) := HBZ.out.alloc hsz _
            exact ⟨k + 1, by omega, by go_num, FN.out (wz.alloc (.cells Vm 3)) (some ⟨wz.heap.size, 0, none⟩) u8 (c9 _) (Fill_below hX HF.out) (Off_new (Nat.le_trans hs7 hsz) (fun b h1 _ h3 => by rcases h3 with h3 | h3 <;> omega) NZ.out), RowAt_set (RowAt_alloc Q8.out _) _ _, ⟨(cell_set_drew _ (by omega)).trans ((hX.cell (p := ⟨d, 0, none⟩) db).trans HD.out.1), (cell_set_drew _ (by omega)).trans ((hX.cell (p := ⟨d, 1, none⟩) db).trans HD.out.2)⟩, Off_set (Off_below hX HO.out) (.inl rfl) _, ((HB.out.trans (hX.mono hs7)).setCell (p := ⟨g, k, none⟩) hg _).drew⟩
          case measure => simp [intOf]; omega
      · obtain rfl : k = u.al := by omega
        obtain ⟨d0, d1⟩ := HD.out
        have hg8 : w7.heap[w.heap.size + 1]? = some (.cells #[.slice none 0 0, .slice none 0 0] 57) := (HB.out.block _ (by rw [HZ0.out]; omega)).trans HG0.out
        have HG8 : Hid _ := hg8
        clear MZ HRJ HA HR hg8
        go_wp2_with ((with_reducible show wpList _ _ _ ({ dst := none, op := Op.store 57 _ _, type := _, pos := _, after := _, guard := _ } :: _) _ _); refine wpList_store_row rfl 57 _ _ rfl (w.heap.size + 1) #[.slice r u.vl u.vl, .slice (some ⟨g, 0, none⟩) u.al u.al] rfl rfl 57 _ HG8.out sizeCells rfl (by simp [Value.oneCell']) ?_)
        refine bodyPost_ret (results_cell_row rfl _ _ (w.heap.size + 1) 57 #[.slice r u.vl u.vl, .slice (some ⟨g, 0, none⟩) u.al u.al] (0, 0) _ rfl (setRow_heap _ _ _ _ _ _ HG8.out) Try.underlying57 rfl sizeCells) rfl ?_
        have ap : ∀ b i, w0.heap.size ≤ b → (w7.setRow (w.heap.size + 1) #[.slice r u.vl u.vl, .slice (some ⟨g, 0, none⟩) u.al u.al]).cell? ⟨b, i, none⟩ = w7.cell? ⟨b, i, none⟩ := fun b i hb => cell_setRow_other _ _ _ _ (by have := HZ0.out; show b ≠ _; omega)
        have hB := UP.out.trans (HB.out.mono UP.out.size)
        exact ⟨hB.trans ⟨rfl, rfl, rfl, by simp, fun i hi => setRow_other _ _ _ _ (by omega)⟩, _, _, rfl, New_mono UP.out.size (New_apart (Off_new' HO.out) ap), NRow_mono UP.out.size (NRow_apart (Fill_row hg HF.out) ap)⟩
end Go.Proofs.Ytalnfnkpemojhaa.EFreshOf
