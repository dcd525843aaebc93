/-
  WHAT eval.areOf GIVES: has a unit such cells.
  Conditions: the unit lies there, and the cells.
-/
import Derived.Test.YtalnfnkpemojhaaEWords
import Derived.Test.YtalnfnkpemojhaaQTop
namespace Go.Proofs.Ytalnfnkpemojhaa.EAreOf
open Go.RowKit ECells EWords Trees NUnits NAsk

/-- is one of a unit's arrays as its Size tells, and of words -/
def arrB (u : UnitD) (C : CellD) (k : Nat) : Bool := decide ((C.ll k : Int) = u.az k ∧ wordsB (C.an k) (C.ll k) = true)
/-- such are the cells of a unit -/
def cellsB (u : UnitD) (C : CellD) : Bool := decide (C.vl = u.vl ∧ C.al = u.al ∧ wordsB C.vs C.vl = true ∧ ∀ k, k < u.al → arrB u C k = true)

theorem two_boxes {w W : World} {t t' : TypeId} {u0 u1 u2 u3 v0 v1 : Value} (hb : Below ((w.alloc (.cells #[u0, u1, u2, u3] t)).alloc (.cells #[v0, v1] t')).heap.size ((w.alloc (.cells #[u0, u1, u2, u3] t)).alloc (.cells #[v0, v1] t')) W) :
    (W.cell? ⟨w.heap.size, 0, none⟩ = some u0 ∧ W.cell? ⟨w.heap.size, 1, none⟩ = some u1 ∧ W.cell? ⟨w.heap.size, 2, none⟩ = some u2 ∧ W.cell? ⟨w.heap.size, 3, none⟩ = some u3) ∧ (W.cell? ⟨w.heap.size + 1, 0, none⟩ = some v0 ∧ W.cell? ⟨w.heap.size + 1, 1, none⟩ = some v1) := by
  have h0 : ∀ i : Nat, (⟨w.heap.size, i, none⟩ : Addr).block < ((w.alloc (.cells #[u0, u1, u2, u3] t)).alloc (.cells #[v0, v1] t')).heap.size := fun i => by simp; omega
  have h1 : ∀ i : Nat, (⟨w.heap.size + 1, i, none⟩ : Addr).block < ((w.alloc (.cells #[u0, u1, u2, u3] t)).alloc (.cells #[v0, v1] t')).heap.size := fun i => by simp
  refine ⟨⟨(hb.cell (h0 0)).trans ?_, (hb.cell (h0 1)).trans ?_, (hb.cell (h0 2)).trans ?_, (hb.cell (h0 3)).trans ?_⟩, ⟨(hb.cell (h1 0)).trans ?_, (hb.cell (h1 1)).trans ?_⟩⟩
  · exact past (by simp) _
  · exact past (by simp) _
  · exact past (by simp) _
  · exact past (by simp) _
  · simp
  · simp

set_option maxHeartbeats 4000000 in
theorem areOf (w : World) (u : UnitD) (C : CellD) (va aa : Option Addr) (vc ac : Nat) (hu : UnitLies w u) (hl : C.vl ≤ maxLen ∧ C.al ≤ maxLen) (hv : Nums w va C.vl C.vs) (hi : IRow w aa C.al C.ll C.an) :
    Calls Try.prog 27 #[.agg #[.string u.name, .slice u.va u.vl u.vc, .slice u.aa u.al u.ac, .slice u.fa u.fl u.fc], .agg #[.slice va C.vl vc, .slice aa C.al ac]] w fun e w' => e = .returned (.bool (cellsB u C)) ∧ Below w.heap.size w w' := by
  obtain ⟨cvl, vs, cal, ll, an⟩ := C
  dsimp only at hl hv hi ⊢
  have kw : ∀ W, Below w.heap.size w W → _ := fun W hb => words W va cvl vc vs hl.1 (Nums_below hb hv)
  have kx : ∀ W ao len cap z, len ≤ maxLen → Nums W ao len z → _ := fun W ao len cap z h h' => words W ao len cap z h h'
  obtain ⟨hul, _, hA, _⟩ := hu
  obtain ⟨w0, ew⟩ : ∃ w0, w0 = (w.alloc (.cells #[.string u.name, .slice u.va u.vl u.vc, .slice u.aa u.al u.ac, .slice u.fa u.fl u.fc] 38)).alloc (.cells #[.slice va cvl vc, .slice aa cal ac] 57) := ⟨_, rfl⟩
  have hb0 : Below w.heap.size w w0 := by rw [ew]; exact below2 w _ _
  have bx : ∀ W, Below w0.heap.size w0 W → (W.cell? ⟨w.heap.size, 0, none⟩ = some (.string u.name) ∧ W.cell? ⟨w.heap.size, 1, none⟩ = some (.slice u.va u.vl u.vc) ∧ W.cell? ⟨w.heap.size, 2, none⟩ = some (.slice u.aa u.al u.ac) ∧ W.cell? ⟨w.heap.size, 3, none⟩ = some (.slice u.fa u.fl u.fc)) ∧ (W.cell? ⟨w.heap.size + 1, 0, none⟩ = some (.slice va cvl vc) ∧ W.cell? ⟨w.heap.size + 1, 1, none⟩ = some (.slice aa cal ac)) := by
    rw [ew]
    exact fun W hb => two_boxes hb
  generalize u.aa = uaa at hA bx ew ⊢
  have EW : Hid _ := ew.symm
  have UP : Hid (Below w.heap.size w w0) := hb0
  have BX : Hid _ := bx
  have KW : Hid _ := kw
  have KX : Hid _ := kx
  have HI : Hid (IRow w aa cal ll an) := hi
  have HA : Hid (ARow w uaa u.al u.an u.az) := hA
  obtain ⟨_, hx1, hx2, _⟩ := hul
  obtain ⟨hy1, hy2⟩ := hl
  unfold maxLen at hx1 hx2 hy1 hy2
  have hi1 : (u.vl : Int) ≤ 9223372036854775807 := by omega
  have hi2 : (u.al : Int) ≤ 9223372036854775807 := by omega
  have hi3 : (cvl : Int) ≤ 9223372036854775807 := by omega
  have hi4 : (cal : Int) ≤ 9223372036854775807 := by omega
  clear kw kx hb0 bx ew hv hi hA hx1 hx2 hy1 hy2
  by_cases c1 : cvl = u.vl
  case neg =>
    have E : Hid (cellsB u ⟨cvl, vs, cal, ll, an⟩ = false) := decide_eq_false fun h => c1 h.1
    have n1 : (cvl : Int) < u.vl ∨ (u.vl : Int) < cvl := by omega
    clear KW KX HI HA c1
    rcases n1 with n1 | n1
    all_goals
      go_enter Try.func27, Try.ntmps27
      go_wp2
      go_ret
      exact ⟨by rw [E.out]; rfl, below2 w _ _⟩
  subst c1
  by_cases c2 : cal = u.al
  case neg =>
    have E : Hid (cellsB u ⟨u.vl, vs, cal, ll, an⟩ = false) := decide_eq_false fun h => c2 h.2.1
    have n2 : (cal : Int) < u.al ∨ (u.al : Int) < cal := by omega
    clear KW KX HI HA c2
    rcases n2 with n2 | n2
    all_goals
      go_enter Try.func27, Try.ntmps27
      go_wp2
      go_ret
      exact ⟨by rw [E.out]; rfl, below2 w _ _⟩
  subst c2
  rcases Bool.eq_false_or_eq_true (wordsB vs u.vl) with h3 | h3
  case inr =>
    have E : Hid (cellsB u ⟨u.vl, vs, u.al, ll, an⟩ = false) := decide_eq_false fun h => by rw [h3] at h; exact absurd h.2.2.1 (by decide)
    clear KX HI HA
    go_enter Try.func27, Try.ntmps27
    go_wp2_with (go_at_call 49; rw [EW.out]; refine (KW.out _ UP.out).mono ?_; rintro e w1 ⟨he, hw⟩; rw [h3] at he; subst he; rw [hw]; clear hw w1)
    go_ret
    exact ⟨by rw [E.out]; rfl, UP.out⟩
  have E : Hid (cellsB u ⟨u.vl, vs, u.al, ll, an⟩ = decide (∀ k, k < u.al → arrB u ⟨u.vl, vs, u.al, ll, an⟩ k = true)) := by
    rw [cellsB]
    exact decide_eq_decide.2 ⟨fun h => h.2.2.2, fun h => ⟨rfl, rfl, h3, h⟩⟩
  obtain ⟨R, eR⟩ : ∃ R, R = cellsB u ⟨u.vl, vs, u.al, ll, an⟩ := ⟨_, rfl⟩
  rw [← eR] at E ⊢
  clear eR
  go_enter Try.func27, Try.ntmps27
  go_wp2_with (go_at_call 49; rw [EW.out]; refine (KW.out _ UP.out).mono ?_; rintro e w1 ⟨he, hw⟩; rw [h3] at he; subst he; rw [hw]; clear hw w1; obtain ⟨⟨q0, q1, q2, q3⟩, ⟨q4, q5⟩⟩ := BX.out _ (Below.refl w0.heap.size w0))
  clear q0 q1 q2 q3 q4 q5 h3 KW
  go_loopw [32] (fun i wr => ∃ k : Nat, k ≤ u.al ∧ i = .int .i64 k ∧ Hid (∀ j, j < k → arrB u ⟨u.vl, vs, u.al, ll, an⟩ j = true) ∧ Hid (Below w0.heap.size w0 wr)) (fun i _ => u.al - (intOf i).toNat)
  case atStart => exact ⟨0, Nat.zero_le _, rfl, (fun j hj => absurd hj (Nat.not_lt_zero j) : ∀ j, j < 0 → arrB u ⟨u.vl, vs, u.al, ll, an⟩ j = true), Below.refl _ _⟩
  case round =>
    obtain ⟨k, hk, rfl, HZ, HB⟩ := hrel
    have HW : Hid (Below w.heap.size w wr) := UP.out.trans (HB.out.mono UP.out.size)
    by_cases hka : k < u.al
    · obtain ⟨⟨bl, off, ea, t0, t1⟩, _⟩ := ARow_below HW.out HA.out k hka
      obtain ⟨bl2, off2, r, c, e2, d, hll, hnm⟩ := IRow_below HW.out HI.out k hka
      have hkI : (k : Int) < u.al := by omega
      obtain ⟨wz, ez⟩ : ∃ wz, wz = wr.alloc (.cells #[.string (u.an k), .int .i64 (u.az k)] 49) := ⟨_, rfl⟩
      have hbz : Below wr.heap.size wr wz := by rw [ez]; exact (Below.refl wr.heap.size wr).alloc (Nat.le_refl _) _
      have HZ2 : Hid (Below w0.heap.size w0 wz) := HB.out.trans (hbz.mono HB.out.size)
      have bz : wz.cell? ⟨wr.heap.size, 1, none⟩ = some (.int .i64 (u.az k)) := by rw [ez]; simp
      have d2 : wz.cell? ⟨bl2, off2 + k, none⟩ = some (.slice r (ll k) c) := (hbz.cell (World.block_lt_of_cell? wr _ d)).trans d
      have kk : ∀ W, Below wz.heap.size wz W → _ := fun W hb => KX.out W r (ll k) c (an k) hll (Nums_below (hbz.trans (hb.mono hbz.size)) hnm)
      have EZ : Hid (wr.alloc (.cells #[.string (u.an k), .int .i64 (u.az k)] 49) = wz) := ez.symm
      have AO : Hid (arrB u ⟨u.vl, vs, u.al, ll, an⟩ k = true ↔ ((ll k : Int) = u.az k ∧ wordsB (an k) (ll k) = true)) := decide_eq_true_iff
      have BZ1 : Hid _ := bz
      have D2 : Hid _ := d2
      unfold maxLen at hll
      have hlI : (ll k : Int) ≤ 9223372036854775807 := by omega
      have YES : arrB u ⟨u.vl, vs, u.al, ll, an⟩ k = true → Hid (∀ j, j < k + 1 → arrB u ⟨u.vl, vs, u.al, ll, an⟩ j = true) := fun hx j hj => by
        rcases Nat.lt_or_ge j k with h | h
        · exact HZ.out j h
        · obtain rfl : j = k := by omega
          exact hx
      have NO : ¬ arrB u ⟨u.vl, vs, u.al, ll, an⟩ k = true → R = false := fun hx => E.out.trans (decide_eq_false fun h => hx (h k hka))
      clear hnm d d2 bz ez hbz HA HI KX E HZ hll
      generalize wordsB (an k) (ll k) = b at kk AO
      generalize ll k = m at kk AO D2 hlI
      have KK : Hid _ := kk
      clear kk
      by_cases h5 : (m : Int) = u.az k
      · cases b
        · have er : R = false := NO fun h => absurd (AO.out.1 h).2 (by decide)
          have ER : Hid (R = false) := er
          clear er NO YES AO
          generalize u.az k = x at *
          generalize u.an k = nm at *
          subst h5
          subst ea e2
          go_wp2
          rw [EZ.out]
          obtain ⟨⟨q0, q1, q2, q3⟩, ⟨q4, q5⟩⟩ := BX.out _ HZ2.out
          have bz := BZ1.out
          have d2 := D2.out
          go_quiet ((go_at_call 49; exact Calls.quiet_of_same (KK.out _ ⟨rfl, rfl, rfl, Nat.le_refl _, fun _ _ => rfl⟩)))
          go_wp2
          go_ret
          exact ⟨by rw [ER.out]; rfl, (fun hb => UP.out.trans (Below.mono hb UP.out.size) : Below w0.heap.size w0 _ → Below w.heap.size w _) ⟨HZ2.out.os, HZ2.out.tape, HZ2.out.output, HZ2.out.size, HZ2.out.block⟩⟩
        · have ys := YES (AO.out.2 ⟨h5, rfl⟩)
          clear NO YES AO
          generalize u.az k = x at *
          generalize u.an k = nm at *
          subst h5
          subst ea e2
          go_wp2
          rw [EZ.out]
          obtain ⟨⟨q0, q1, q2, q3⟩, ⟨q4, q5⟩⟩ := BX.out _ HZ2.out
          have bz := BZ1.out
          have d2 := D2.out
          go_quiet ((go_at_call 49; exact Calls.quiet_of_same (KK.out _ ⟨rfl, rfl, rfl, Nat.le_refl _, fun _ _ => rfl⟩)))
          go_wp2
          go_roundw
          case rel => exact ⟨k + 1, by omega, by go_num, ys, ⟨HZ2.out.os, HZ2.out.tape, HZ2.out.output, HZ2.out.size, HZ2.out.block⟩⟩
          case measure => simp [intOf]; omega
      · have n5 : ((m : Int) != u.az k) = true := bne_iff_ne.2 h5
        have er : R = false := NO fun h => h5 (AO.out.1 h).1
        have ER : Hid (R = false) := er
        clear er NO YES AO KK
        generalize u.az k = x at *
        generalize u.an k = nm at *
        clear h5
        subst ea e2
        go_wp2
        rw [EZ.out]
        obtain ⟨⟨q0, q1, q2, q3⟩, ⟨q4, q5⟩⟩ := BX.out _ HZ2.out
        have bz := BZ1.out
        have d2 := D2.out
        go_quiet (fail)
        go_wp2
        go_ret
        exact ⟨by rw [ER.out]; rfl, (fun hb => UP.out.trans (Below.mono hb UP.out.size) : Below w0.heap.size w0 _ → Below w.heap.size w _) ⟨HZ2.out.os, HZ2.out.tape, HZ2.out.output, HZ2.out.size, HZ2.out.block⟩⟩
    · obtain rfl : k = u.al := by omega
      have er : R = true := E.out.trans (decide_eq_true HZ.out)
      have ER : Hid (R = true) := er
      clear er E HZ HA HI KX
      go_wp2
      go_ret
      exact ⟨by rw [ER.out]; rfl, HW.out⟩
end Go.Proofs.Ytalnfnkpemojhaa.EAreOf
