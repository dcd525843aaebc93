/-
  WHAT (names.list).has, twice, names.both AND ITS CLOSURE GIVE.
  Conditions: the lists are told by their closures.
-/
import Derived.Test.YtgjemlhnlpglbaaDoorR28
import Derived.Test.YtgjemlhnlpglbaaDoorR1
import Derived.BigQuiet
import Derived.Deep.QuietTactic
import Derived.Deep.RegionWith
import Derived.Deep.RegionLaw
namespace Go.Proofs.YtgjemlhnlpglbaaDoor.NBoth
open Go.RowKit NPlace NPlain NUnits

theorem has (w : World) (k n : Nat) (caps : Array Value) (z : Nat → ByteArray) (s : ByteArray) (hn : n ≤ maxLen) (ht : Tells w k caps n z) :
    Calls Tryd.prog 62 #[.agg #[.int .i64 n, .func (.func k) #[] caps], .string s] w fun e w' => e = .returned (.bool (hasB z s n)) ∧ Below w.heap.size w w' := by
  have hb0 : Below w.heap.size w (w.alloc (.cells #[.int .i64 n, .func (.func k) #[] caps] 68)) := (Below.refl _ _).alloc (Nat.le_refl _) _
  have kp : ∀ W, Below w.heap.size w W → Calls Tryd.prog 38 #[.agg #[.int .i64 n, .func (.func k) #[] caps], .string s] W fun e w' => e = .returned (.int .i64 (placeFrom z s 0 n)) ∧ Below W.heap.size W w' := fun W hb => place W k n caps z s hn (ht.below hb)
  have EH : Hid (hasB z s n = decide (0 ≤ placeFrom z s 0 n)) := (rfl : hasB z s n = _)
  generalize placeFrom z s 0 n = r at kp EH
  have HB0 : Hid _ := hb0
  have KP : Hid _ := kp
  clear ht hn hb0 kp
  by_cases hr : 0 ≤ r
  · have EH2 : Hid (hasB z s n = true) := EH.out.trans (decide_eq_true hr)
    go_enter Tryd.func62, Tryd.ntmps62
    go_wp2_with (go_at_call 38; refine (KP.out _ HB0.out).mono ?_; rintro e w2 ⟨rfl, hb2⟩; have HB2 : Hid _ := hb2; clear hb2)
    go_ret
    exact ⟨by rw [EH2.out]; first | rfl | simp [hr], HB0.out.trans (HB2.out.mono HB0.out.size)⟩
  · have EH2 : Hid (hasB z s n = false) := EH.out.trans (decide_eq_false hr)
    have hr2 : r < 0 := by omega
    go_enter Tryd.func62, Tryd.ntmps62
    go_wp2_with (go_at_call 38; refine (KP.out _ HB0.out).mono ?_; rintro e w2 ⟨rfl, hb2⟩; have HB2 : Hid _ := hb2; clear hb2)
    go_ret
    exact ⟨by rw [EH2.out]; first | rfl | simp [hr2], HB0.out.trans (HB2.out.mono HB0.out.size)⟩

set_option maxHeartbeats 1000000 in
theorem twice (w : World) (k n : Nat) (caps : Array Value) (z : Nat → ByteArray) (hn : n ≤ maxLen) (ht : Tells w k caps n z) :
    Calls Tryd.prog 17 #[.agg #[.int .i64 n, .func (.func k) #[] caps]] w fun e w' => e = .returned (.bool (twiceB z n)) ∧ Below w.heap.size w w' := by
  have hb0 : Below w.heap.size w (w.alloc (.cells #[.int .i64 n, .func (.func k) #[] caps] 68)) := (Below.refl _ _).alloc (Nat.le_refl _) _
  have kp : ∀ W s, Below w.heap.size w W → Calls Tryd.prog 38 #[.agg #[.int .i64 n, .func (.func k) #[] caps], .string s] W fun e w' => e = .returned (.int .i64 (placeFrom z s 0 n)) ∧ Below W.heap.size W w' := fun W s hb => place W k n caps z s hn (ht.below hb)
  have ET : Hid (twiceB z n = twiceFrom z n 0 n) := (rfl : twiceB z n = _)
  obtain ⟨w0, ew⟩ : ∃ w0, w0 = w.alloc (.cells #[.int .i64 n, .func (.func k) #[] caps] 68) := ⟨_, rfl⟩
  have c0 : w0.cell? ⟨w.heap.size, 0, none⟩ = some (.int .i64 n) := by rw [ew]; simp
  have c1 : w0.cell? ⟨w.heap.size, 1, none⟩ = some (.func (.func k) #[] caps) := by rw [ew]; simp
  rw [← ew] at hb0
  have HT : Hid (Tells w k caps n z) := ht
  have KP : Hid _ := kp
  have HB0 : Hid _ := hb0
  have C0 : Hid _ := c0
  have C1 : Hid _ := c1
  have EW : Hid (w.alloc (.cells #[.int .i64 n, .func (.func k) #[] caps] 68) = w0) := ew.symm
  have eg := ht.enter
  unfold maxLen at hn
  have hnI : (n : Int) ≤ 9223372036854775807 := by omega
  clear ht hn hb0 kp c0 c1 ew
  go_enter Tryd.func17, Tryd.ntmps17
  go_wp2
  rw [EW.out]
  go_loopw [6] (fun i wr => ∃ j : Nat, j ≤ n ∧ i = .int .i64 j ∧ twiceFrom z n j (n - j) = twiceFrom z n 0 n ∧ Below w0.heap.size w0 wr) (fun i _ => n - (intOf i).toNat)
  case atStart => exact ⟨0, Nat.zero_le _, rfl, rfl, Below.refl _ _⟩
  case round =>
    obtain ⟨j, hj, rfl, hp, hbel⟩ := hrel
    have up := HB0.out.trans (hbel.mono HB0.out.size)
    have UP : Hid _ := up
    by_cases hjn : j < n
    · have q0 := (hbel.cell (World.block_lt_of_cell? w0 _ C0.out)).trans C0.out
      have q1 := (hbel.cell (World.block_lt_of_cell? w0 _ C1.out)).trans C1.out
      have hjI : (j : Int) < n := by omega
      rw [show n - j = (n - (j + 1)) + 1 by omega, twiceFrom] at hp
      have kk : ∀ W, Below w.heap.size w W → _ := fun W hb => HT.out.calls W hb j hjn
      have kq : ∀ W, Below w.heap.size w W → _ := fun W hb => KP.out W (z j) hb
      have HB : Hid _ := hbel
      clear hbel HT KP up C0 C1
      generalize z j = y at hp kk kq
      generalize placeFrom z y 0 n = r at hp kq
      have KK : Hid _ := kk
      have KQ : Hid _ := kq
      clear kk kq
      rcases (show r < j ∨ (j : Int) ≤ r by omega) with hr | hr
      · rw [if_pos hr] at hp
        have HP : Hid _ := hp
        clear hp
        go_wp2
        go_region_law (first
          | (go_simp; (with_reducible show Calls _ k _ _ _); refine (KK.out _ (by exact UP.out.drew)).mono ?_; rintro e w1 ⟨rfl, hb1⟩; have HB1 : Hid (Below wr.heap.size wr w1) := (Below.refl _ wr).drew.trans hb1; have q2 := (hb1.cell (World.block_lt_of_cell? wr _ q0)).trans q0; have q3 := (hb1.cell (World.block_lt_of_cell? wr _ q1)).trans q1; clear hb1)
          | (go_simp; go_at_call 38; refine (KQ.out _ (UP.out.trans (HB1.out.mono UP.out.size))).mono ?_; rintro e w2 ⟨rfl, hb2⟩; have HB2 : Hid _ := HB1.out.trans (hb2.mono HB1.out.size); clear hb2))
        all_goals
          go_wp2
          go_ret
          exact ⟨by rw [ET.out, ← HP.out]; rfl, UP.out.trans (HB2.out.mono UP.out.size)⟩
      · rw [if_neg (by omega)] at hp
        have HP : Hid _ := hp
        clear hp
        go_wp2
        go_region_law (first
          | (go_simp; (with_reducible show Calls _ k _ _ _); refine (KK.out _ (by exact UP.out.drew)).mono ?_; rintro e w1 ⟨rfl, hb1⟩; have HB1 : Hid (Below wr.heap.size wr w1) := (Below.refl _ wr).drew.trans hb1; have q2 := (hb1.cell (World.block_lt_of_cell? wr _ q0)).trans q0; have q3 := (hb1.cell (World.block_lt_of_cell? wr _ q1)).trans q1; clear hb1)
          | (go_simp; go_at_call 38; refine (KQ.out _ (UP.out.trans (HB1.out.mono UP.out.size))).mono ?_; rintro e w2 ⟨rfl, hb2⟩; have HB2 : Hid _ := HB1.out.trans (hb2.mono HB1.out.size); clear hb2))
        all_goals
          go_wp2
          go_roundw
          case rel => exact ⟨j + 1, by omega, by go_num, HP.out, HB.out.trans (HB2.out.mono HB.out.size)⟩
          case measure => simp [intOf]; omega
    · obtain rfl : j = n := by omega
      rw [Nat.sub_self, twiceFrom] at hp
      have HP : Hid _ := hp
      clear hp HT KP hbel up
      go_wp2
      go_ret
      exact ⟨by rw [ET.out, ← HP.out]; rfl, UP.out⟩

theorem both_at (w : World) (ba bb na nb ka kb i : Nat) (ca cb : Array Value) (z y : Nat → ByteArray) (hi : i < na + nb) (hl : na + nb ≤ maxLen)
    (a0 : w.cell? ⟨ba, 0, none⟩ = some (.int .i64 na)) (a1 : w.cell? ⟨ba, 1, none⟩ = some (.func (.func ka) #[] ca)) (b1 : w.cell? ⟨bb, 1, none⟩ = some (.func (.func kb) #[] cb)) (hA : Tells w ka ca na z) (hB : Tells w kb cb nb y) :
    Calls Tryd.prog 57 #[.int .i64 i, .pointer (some ⟨ba, 0, none⟩), .pointer (some ⟨bb, 0, none⟩)] w fun e w' => e = .returned (.string (both na z y i)) ∧ Below w.heap.size w w' := by
  unfold maxLen at hl
  have hnI : (na : Int) ≤ 9223372036854775807 := by omega
  have hiJ : (i : Int) ≤ 9223372036854775807 := by omega
  have ea := hA.enter
  have eb := hB.enter
  by_cases h : i < na
  · have hiI : (i : Int) < na := by omega
    have kA := hA.calls w (Below.refl _ _) i h
    have E : Hid (both na z y i = z i) := if_pos h
    clear hA hB hl hi h eb
    generalize z i = s at kA E
    go_enter Tryd.func57, Tryd.ntmps57
    go_wp2_with ((with_reducible show Calls _ ka _ _ _); refine kA.mono ?_; rintro e w1 ⟨rfl, hb1⟩)
    go_ret
    exact ⟨by rw [E.out]; rfl, hb1⟩
  · have hiI : (na : Int) ≤ i := by omega
    have kB := hB.calls w (Below.refl _ _) (i - na) (by omega)
    rw [show ((i - na : Nat) : Int) = (i : Int) - na by omega] at kB
    have E : Hid (both na z y i = y (i - na)) := if_neg h
    clear hA hB hl hi h ea
    generalize y (i - na) = s at kB E
    go_enter Tryd.func57, Tryd.ntmps57
    go_wp2_with ((with_reducible show Calls _ kb _ _ _); refine kB.mono ?_; rintro e w1 ⟨rfl, hb1⟩)
    go_ret
    exact ⟨by rw [E.out]; rfl, hb1⟩

theorem both_made (w : World) (na nb ka kb : Nat) (ca cb : Array Value) (hl : na + nb ≤ maxLen) :
    Calls Tryd.prog 40 #[.agg #[.int .i64 na, .func (.func ka) #[] ca], .agg #[.int .i64 nb, .func (.func kb) #[] cb]] w fun e w' => Below w.heap.size w w' ∧ ∃ ba bb, e = .returned (.agg #[.int .i64 (na + nb : Nat), .func (.func 57) #[] #[.pointer (some ⟨ba, 0, none⟩), .pointer (some ⟨bb, 0, none⟩)]]) ∧
      w'.cell? ⟨ba, 0, none⟩ = some (.int .i64 na) ∧ w'.cell? ⟨ba, 1, none⟩ = some (.func (.func ka) #[] ca) ∧ w'.cell? ⟨bb, 1, none⟩ = some (.func (.func kb) #[] cb) := by
  have hmf : ∀ (fn : Fn) (first cap : Array Value) (w : World), (Instr.makeFunc fn first cap).run Tryd.prog w = .ok (.func fn first cap) w := fun _ _ _ _ => rfl
  unfold maxLen at hl
  have hlI : (na : Int) + nb ≤ 9223372036854775807 := by omega
  have ec : ((na + nb : Nat) : Int) = (na : Int) + nb := by omega
  rw [ec]
  obtain ⟨w3, ew⟩ : ∃ w3, w3 = ((w.alloc (.cells #[.int .i64 na, .func (.func ka) #[] ca] 68)).alloc (.cells #[.int .i64 nb, .func (.func kb) #[] cb] 68)).alloc (.cells #[.int .i64 0, .nilFunc] 68) := ⟨_, rfl⟩
  have hb : Below w.heap.size w w3 := by rw [ew]; exact (below2 w _ _).alloc (below2 w _ _).size _
  have hg : w3.heap[w.heap.size + 2]? = some (.cells #[.int .i64 0, .nilFunc] 68) := by
    rw [ew]
    have := heap_alloc2_new (w.alloc (.cells #[.int .i64 na, .func (.func ka) #[] ca] 68)) (.cells #[.int .i64 nb, .func (.func kb) #[] cb] 68) (.cells #[.int .i64 0, .nilFunc] 68)
    simpa using this
  have c0 : w3.cell? ⟨w.heap.size, 0, none⟩ = some (.int .i64 na) := by rw [ew]; exact (World.cell?_alloc_past _ _ _ (by simp; omega)).trans ((World.cell?_alloc_past _ _ _ (by simp)).trans (by simp))
  have c1 : w3.cell? ⟨w.heap.size, 1, none⟩ = some (.func (.func ka) #[] ca) := by rw [ew]; exact (World.cell?_alloc_past _ _ _ (by simp; omega)).trans ((World.cell?_alloc_past _ _ _ (by simp)).trans (by simp))
  have d0 : w3.cell? ⟨w.heap.size + 1, 0, none⟩ = some (.int .i64 nb) := by rw [ew]; exact (World.cell?_alloc_past _ _ _ (by simp)).trans (by simp)
  have d1 : w3.cell? ⟨w.heap.size + 1, 1, none⟩ = some (.func (.func kb) #[] cb) := by rw [ew]; exact (World.cell?_alloc_past _ _ _ (by simp)).trans (by simp)
  have HB : Hid _ := hb
  have HG : Hid _ := hg
  have C0 : Hid _ := c0
  have C1 : Hid _ := c1
  have D1 : Hid _ := d1
  have EW : Hid _ := ew
  clear hl hb hg ec c0 c1 d0 d1 ew
  go_enter Tryd.func40, Tryd.ntmps40
  go_wp2_with ((with_reducible show wpList _ _ _ ({ dst := none, op := Op.store 68 _ _, type := _, pos := _, after := _, guard := _ } :: _) _ _); rw [← EW.out]; refine wpList_store_row rfl 68 _ _ rfl (w.heap.size + 2) #[.int .i64 ((na : Int) + nb), .func (.func 57) #[] #[.pointer (some ⟨w.heap.size, 0, none⟩), .pointer (some ⟨w.heap.size + 1, 0, none⟩)]] rfl rfl 68 _ HG.out sizeList rfl (by simp [Value.oneCell']) ?_)
  refine bodyPost_ret (results_cell_row rfl _ _ (w.heap.size + 2) 68 #[.int .i64 ((na : Int) + nb), .func (.func 57) #[] #[.pointer (some ⟨w.heap.size, 0, none⟩), .pointer (some ⟨w.heap.size + 1, 0, none⟩)]] (0, 0) _ rfl (setRow_heap _ _ _ _ _ _ HG.out) Tryd.underlying68 rfl sizeList) rfl ?_
  exact ⟨HB.out.trans ⟨rfl, rfl, rfl, by simp, fun k hk => setRow_other _ _ _ _ (by omega)⟩, w.heap.size, w.heap.size + 1, rfl, (cell_setRow_other _ _ _ _ (by simp)).trans C0.out, (cell_setRow_other _ _ _ _ (by simp)).trans C1.out, (cell_setRow_other _ _ _ _ (by simp)).trans D1.out⟩

theorem both_ (w : World) (na nb ka kb : Nat) (ca cb : Array Value) (z y : Nat → ByteArray) (hl : na + nb ≤ maxLen) (hA : Tells w ka ca na z) (hB : Tells w kb cb nb y) :
    Calls Tryd.prog 40 #[.agg #[.int .i64 na, .func (.func ka) #[] ca], .agg #[.int .i64 nb, .func (.func kb) #[] cb]] w fun e w' => Below w.heap.size w w' ∧ ∃ caps, e = .returned (.agg #[.int .i64 (na + nb : Nat), .func (.func 57) #[] caps]) ∧ Tells w' 57 caps (na + nb) (both na z y) := by
  refine (both_made w na nb ka kb ca cb hl).mono ?_
  rintro e w' ⟨hb, ba, bb, rfl, a0, a1, b1⟩
  refine ⟨hb, _, rfl, Tryd.call57, fun W hW i hi => ?_⟩
  have up := fun {p : Addr} {v : Value} (h : w'.cell? p = some v) => (hW.cell (World.block_lt_of_cell? w' p h)).trans h
  exact both_at W ba bb na nb ka kb i ca cb z y hi hl (up a0) (up a1) (up b1) (hA.below (hb.trans (hW.mono hb.size))) (hB.below (hb.trans (hW.mono hb.size)))
end Go.Proofs.YtgjemlhnlpglbaaDoor.NBoth
