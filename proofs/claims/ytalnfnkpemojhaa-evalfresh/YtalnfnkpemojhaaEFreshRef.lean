/-
  WHAT THE DOCUMENT's FreshOf GIVES: the fault of the program, or cells of nothing but zeros for each of its units (P8.1).
  Conditions: the units lie there.
-/
import Derived.Test.YtalnfnkpemojhaaEOwnRows
import Derived.Deep.AppendLies
namespace Go.Proofs.Ytalnfnkpemojhaa.EFreshRef
open Go.RowKit ECells ECopied ERows EFreshRows EOpen ECopy EFresh EOwnRows Trees NSense NUnits NAsk

theorem one_news {W : World} {v0 : Value} {t : TypeId} : ∀ (j : Nat) (u : Value), [v0][j]? = some u → (W.alloc (.cells #[v0] t)).cell? ((⟨W.heap.size, 0, none⟩ : Addr).add j) = some u :=
  fun j u h => World.news_of_block (heap_alloc_new W (.cells #[v0] t)) j u h
theorem two_news {W : World} {v0 v1 : Value} {t : TypeId} : ∀ (j : Nat) (u : Value), [v0, v1][j]? = some u → (W.alloc (.cells #[v0, v1] t)).cell? ((⟨W.heap.size, 0, none⟩ : Addr).add j) = some u :=
  fun j u h => World.news_of_block (heap_alloc_new W (.cells #[v0, v1] t)) j u h

set_option maxHeartbeats 4000000 in
theorem freshRef (w : World) (len pcap : Nat) (pa : Option Addr) (U : Nat → UnitD) (hl : len ≤ maxLen) (hU : URow w pa len U) (hcap : ∀ i, i < len → ∀ k, k < (U i).fl → ((U i).fs k).pl ≤ ((U i).fs k).pc ∧ ((U i).fs k).pc ≤ maxLen) :
    Calls Try.prog 10 #[.slice pa len pcap] w fun e w' => Below w.heap.size w w' ∧
      ((programFault len U ≠ 0 ∧ e = .returned (.tuple #[.slice none 0 0, .int .i64 (programFault len U)])) ∨
       (programFault len U = 0 ∧ ∃ q cap, e = .returned (.tuple #[.slice q len cap, .int .i64 0]) ∧ CRow w' q len (freshC U))) := by
  have kc : ∀ W, Below w.heap.size w W → _ := fun W hb => NRefProg.ref W len pcap pa U hl (URow_below hb hU) hcap
  have KC : Hid _ := kc
  obtain ⟨r, er⟩ : ∃ r, r = programFault len U := ⟨_, rfl⟩
  have ER : Hid (r = programFault len U) := er
  rw [← er] at kc KC ⊢
  clear kc hcap
  by_cases hr : r = 0
  case neg =>
    have hr2 : (r == 0) = false := beq_eq_false_iff_ne.2 hr
    have HR : Hid (r ≠ 0) := hr
    clear hr er hU hl ER
    go_enter Try.func10, Try.ntmps10
    go_wp2_with (go_at_call 8; refine (KC.out _ (by exact Below.refl _ _)).mono ?_; rintro e w1 ⟨rfl, hb1⟩; have H1 : Hid _ := hb1; clear hb1)
    go_ret2
    exact ⟨H1.out, .inl ⟨HR.out, rfl⟩⟩
  subst hr
  obtain ⟨h5, hsm⟩ := small ER.out.symm
  have mz : ∀ m : Nat, m ≤ 10 → _ := fun m h => make_ints m (by omega)
  have MZ : Hid _ := mz
  have SM : Hid _ := hsm
  have HU : Hid (URow w pa len U) := hU
  have hlI : (len : Int) ≤ 5 := by omega
  obtain ⟨i0, gi, gz0, gz1, gz2⟩ := info_parts infoInts
  obtain ⟨i1, hi, hz0, hz1, hz2⟩ := info_parts infoCells
  have I0 : Hid _ := And.intro gi (And.intro gz0 (And.intro gz1 gz2))
  have I1 : Hid _ := And.intro hi (And.intro hz0 (And.intro hz1 hz2))
  clear er hU hl hsm ER mz gi gz0 gz1 gz2 hi hz0 hz1 hz2
  go_enter Try.func10, Try.ntmps10
  go_wp2_with (first
    | (go_at_call 8; refine (KC.out _ (by exact Below.refl _ _)).mono ?_; rintro e w1 ⟨rfl, hb1⟩; have H1 : Hid (Below w.heap.size w w1) := hb1; clear hb1)
    | fail)
  clear KC
  go_loopw [5, 6] (fun v i wr => ∃ k : Nat, k ≤ len ∧ i = .int .i64 k ∧ Hid (CRows wr w.heap.size v k U) ∧ Hid (Below w.heap.size w wr)) (fun _ i _ => len - (intOf i).toNat)
  case atStart => exact ⟨0, Nat.zero_le _, rfl, CRows_nil _ _ _, H1⟩
  case round =>
    clear H1
    revert wr
    rename_i v0 i0'
    intro w7 hrel
    obtain ⟨k, hk, rfl, HC, HB⟩ := hrel
    have hs7 := HB.out.size
    by_cases hkn : k < len
    · obtain ⟨⟨bl, off, ea, t0, t1, t2, t3⟩, hul⟩ := URow_below HB.out HU.out k hkn
      have hkI : (k : Int) < len := by omega
      obtain ⟨h1, h2, h3⟩ := SM.out k hkn
      obtain ⟨V, hV, hV0, hmk⟩ := MZ.out (U k).vl (by omega)
      subst ea
      have HA : Hid (ARow w7 (U k).aa (U k).al (U k).an (U k).az) := hul.2.2.1
      have h1k := h1
      have blt : bl < w7.heap.size := World.block_lt_of_cell? w7 _ t0
      have TT : Hid (∀ W, Below w7.heap.size w7 W → W.cell? ⟨bl, off + k * 4 + 2, none⟩ = some (.slice (U k).aa (U k).al (U k).ac)) := fun W hb => (hb.cell (p := ⟨bl, off + k * 4 + 2, none⟩) blt).trans t2
      have AZ : Hid (∀ j, j < (U k).al → (U k).az j = (((U k).az j).toNat : Int) ∧ ((U k).az j).toNat ≤ 10) := fun j hj => by have := h3 j hj; constructor <;> omega
      have ZV : Hid (ZBlock (w7.alloc (.cells V 3)) w7.heap.size (U k).vl (.slice (some ⟨w7.heap.size, 0, none⟩) (U k).vl (U k).vl)) := ⟨_, V, rfl, Nat.le_refl _, heap_alloc_new w7 _, hV0⟩
      have CN : Hid (∀ (W W1 : World) (v v' u0 u1 : Value) (ys : List Value), W.ownsRow w.heap.size 57 2 v k ys → W.grownBy W1 v.ownBlock → W1.ownsRow w.heap.size 57 2 v' (k + 1) (ys ++ [u0, u1]) → (∀ i, i < k → ∃ u0 u1, (ys[i * 2]? = some u0 ∧ ys[i * 2 + 1]? = some u1) ∧ ZBlock W w.heap.size (U i).vl u0 ∧ ARows W w.heap.size u1 (U i).al fun j => ((U i).az j).toNat) → ZBlock W w.heap.size (U k).vl u0 → ARows W w.heap.size u1 (U k).al (fun j => ((U k).az j).toNat) → CRows W1 w.heap.size v' (k + 1) U) := fun W W1 v v' u0 u1 ys a b c d e f => CRows_next a b c d e f
      obtain ⟨wz, ez⟩ : ∃ wz, wz = w7.alloc (.cells V 3) := ⟨_, rfl⟩
      have EZ : Hid (w7.alloc (.cells V 3) = wz) := ez.symm
      have zz : wz.heap.size = w7.heap.size + 1 := by rw [ez]; simp
      have bz : Below w7.heap.size w7 wz := by rw [ez]; exact (Below.refl _ _).alloc (Nat.le_refl _) _
      have BZ : Hid (Below w7.heap.size w7 wz) := bz
      have ZZ : Hid (wz.heap.size = w7.heap.size + 1) := zz
      have ZV2 : Hid (ZBlock wz w7.heap.size (U k).vl (.slice (some ⟨w7.heap.size, 0, none⟩) (U k).vl (U k).vl)) := by rw [ez]; exact ZV.out
      clear h1 h3 hul ZV hV hV0 bz zz ez
      go_wp2
      rw [EZ.out]
      clear hmk t0 t1 t2 t3
      generalize hR : (fun j => ((U k).az j).toNat) = R at CN
      have AZ2 : Hid (∀ j, j < (U k).al → (U k).az j = (R j : Int) ∧ R j ≤ 10) := fun j hj => by rw [← hR]; exact AZ.out j hj
      clear AZ hR
      generalize U k = u at *
      go_loopw [8] (fun i wr => ∃ (t : Nat) (ao : Option Addr) (cap : Nat), t ≤ u.al ∧ i = .int .i64 t ∧ Hid (wr.cell? ⟨w7.heap.size + 1, 0, none⟩ = some (.slice (some ⟨w7.heap.size, 0, none⟩) u.vl u.vl) ∧ wr.cell? ⟨w7.heap.size + 1, 1, none⟩ = some (.slice ao t cap) ∧ wr.frozen? ⟨w7.heap.size + 1, 1, none⟩ = false) ∧ Hid (ARows wr (w7.heap.size + 2) (.slice ao t cap) t R) ∧ Hid (Below (w7.heap.size + 1) wz wr) ∧ Hid (w7.heap.size + 2 ≤ wr.heap.size)) (fun i _ => u.al - (intOf i).toNat)
      case atStart =>
        have e := ZZ.out
        refine ⟨0, none, 0, Nat.zero_le _, rfl, ⟨?_, ?_, ?_⟩, ARows_nil _ _ _, (Below.refl _ _).alloc (by omega) _, ?_⟩
        · rw [← e]; exact (two_cells wz _ _ _).1
        · rw [← e]; exact (two_cells wz _ _ _).2
        · rw [← e]; exact ((two_new wz _ _ _) 1 (by omega)).2
        · show _ ≤ (wz.alloc _).heap.size; simp; omega
      case round =>
        revert wr
        intro w8 hrel
        obtain ⟨t, ao, cap, ht, rfl, HX, HT, HB8, HS8⟩ := hrel
        have hs8 := HS8.out
        have hbz := BZ.out
        have HB9 : Hid (Below w7.heap.size w7 w8) := hbz.trans (HB8.out.mono (by omega))
        have tt := TT.out w8 HB9.out
        obtain ⟨x0, x1, xf⟩ := HX.out
        by_cases hta : t < u.al
        · obtain ⟨⟨bl2, off2, e2, s0, s1⟩, _⟩ := ARow_below HB9.out HA.out t hta
          have htI : (t : Int) < u.al := by omega
          obtain ⟨em, hm⟩ := AZ2.out t hta
          rw [em] at s1
          obtain ⟨Vm, hVm, hV0, hmk⟩ := MZ.out (R t) hm
          generalize u.an t = nm at *
          have hd8 : w7.heap.size + 1 < w8.heap.size := by omega
          generalize hmR : R t = m at *
          generalize u.aa = uaa at *
          subst e2
          obtain ⟨xs, ho, hz⟩ := HT.out
          have b9 : Below w8.heap.size w8 ((w8.alloc (.cells Vm 3)).alloc (.cells #[.slice (some ⟨w8.heap.size, 0, none⟩) m m] 54)).drew := (((Below.refl _ _).alloc (Nat.le_refl _) _).alloc (by simp) _).drew
          have z9 : (((w8.alloc (.cells Vm 3)).alloc (.cells #[.slice (some ⟨w8.heap.size, 0, none⟩) m m] 54)).drew).heap.size = w8.heap.size + 2 := by show ((w8.alloc _).alloc _).heap.size = _; simp
          have OW : Hid (World.ownsRow ((w8.alloc (.cells Vm 3)).alloc (.cells #[.slice (some ⟨w8.heap.size, 0, none⟩) m m] 54)).drew (w7.heap.size + 2) 54 1 (.slice ao t cap) t xs) := (ho.alloc _).alloc _
          have NEW : Hid (∀ (j : Nat) (v : Value), ([.slice (some ⟨w8.heap.size, 0, none⟩) m m] : List Value)[j]? = some v → (((w8.alloc (.cells Vm 3)).alloc (.cells #[.slice (some ⟨w8.heap.size, 0, none⟩) m m] 54)).drew).cell? ((⟨w8.heap.size + 1, 0, none⟩ : Addr).add j) = some v) := fun j v hj => by
            have := @one_news (w8.alloc (.cells Vm 3)) (.slice (some ⟨w8.heap.size, 0, none⟩) m m) 54 j v hj
            rw [show (w8.alloc (.cells Vm 3)).heap.size = w8.heap.size + 1 by simp] at this
            exact this
          have ONE : Hid (∀ v ∈ ([.slice (some ⟨w8.heap.size, 0, none⟩) m m] : List Value), v.oneCell' = true) := by simp [Hid, Value.oneCell']
          have NB : Hid (w7.heap.size + 2 ≤ (((w8.alloc (.cells Vm 3)).alloc (.cells #[.slice (some ⟨w8.heap.size, 0, none⟩) m m] 54)).drew).heap.size) := by show _ ≤ _; rw [z9]; omega
          have XN : Hid (∀ W1, World.grownBy ((w8.alloc (.cells Vm 3)).alloc (.cells #[.slice (some ⟨w8.heap.size, 0, none⟩) m m] 54)).drew W1 (Value.slice ao t cap).ownBlock → (W1.cell? ⟨w7.heap.size + 1, 0, none⟩ = some (.slice (some ⟨w7.heap.size, 0, none⟩) u.vl u.vl) ∧ W1.cell? ⟨w7.heap.size + 1, 1, none⟩ = some (.slice ao t cap) ∧ W1.frozen? ⟨w7.heap.size + 1, 1, none⟩ = false) ∧ Below (w7.heap.size + 1) wz W1 ∧ w7.heap.size + 2 ≤ W1.heap.size) := fun W1 hg => by
            have hb := (b9.mono hs8).grown hg (by rw [z9]; omega) (fun g e => (ho.lt g e).1)
            exact ⟨⟨(hb.cell (p := ⟨w7.heap.size + 1, 0, none⟩) (by simp)).trans x0, (hb.cell (p := ⟨w7.heap.size + 1, 1, none⟩) (by simp)).trans x1, (World.frozen?_of_block (hb.block (w7.heap.size + 1) (by omega))).trans xf⟩, HB8.out.trans (hb.mono (by omega)), Nat.le_trans hs8 hb.size⟩
          have AN : Hid (∀ (W1 : World) (g' c' : Nat), World.grownBy ((w8.alloc (.cells Vm 3)).alloc (.cells #[.slice (some ⟨w8.heap.size, 0, none⟩) m m] 54)).drew W1 (Value.slice ao t cap).ownBlock → W1.ownsRow (w7.heap.size + 2) 54 1 (.slice (some ⟨g', 0, none⟩) (t + 1) c') (t + 1) (xs ++ [.slice (some ⟨w8.heap.size, 0, none⟩) m m]) → ARows (W1.setCell ⟨w7.heap.size + 1, 1, none⟩ (.slice (some ⟨g', 0, none⟩) (t + 1) c')) (w7.heap.size + 2) (.slice (some ⟨g', 0, none⟩) (t + 1) c') (t + 1) R) := fun W1 g' c' hg h' => by
            refine ARows_apart (fun b hb => Below.heap_setCell _ _ _ _ (by show b ≠ w7.heap.size + 1; omega)) (ARows_next OW.out hg h' (fun j hj => (hz j hj).elim fun v hv => ⟨v, ⟨hv.1, ZBlock_same (t := 0) (Same_below b9) (by decide) hv.2⟩⟩) ?_)
            rw [hmR]
            exact ⟨w8.heap.size, Vm, rfl, hs8, by show ((w8.alloc _).alloc _).heap[_]? = _; rw [heap_alloc_old]; exact heap_alloc_new w8 _; simp, hV0⟩
          have c1 : ∀ o, (w8.alloc o).cell? ⟨w7.heap.size + 1, 1, none⟩ = some (.slice ao t cap) := fun o => (World.cell?_alloc_past o _ _ hd8).trans x1
          have c2 : ∀ o o', ((w8.alloc o).alloc o').cell? ⟨w7.heap.size + 1, 1, none⟩ = some (.slice ao t cap) := fun o o' => (World.cell?_alloc_past o' _ _ (by simp; omega)).trans (c1 o)
          have c3 : ∀ o, (w8.alloc o).drew.cell? ⟨w7.heap.size + 1, 1, none⟩ = some (.slice ao t cap) := c1
          have c4 : ∀ o o', ((w8.alloc o).alloc o').drew.cell? ⟨w7.heap.size + 1, 1, none⟩ = some (.slice ao t cap) := c2
          clear hz ho b9 z9 HX HT hV0 hVm em hm hmR AZ2 MZ
          go_wp2
          go_region_law (refine step_append_lies _ (by rfl) (.tmp 39) (.tmp 50) 55 (by rfl) (w7.heap.size + 2) 54 i0 _ 1 24 Try.underlying55 I0.out.1 I0.out.2.1 I0.out.2.2.1 I0.out.2.2.2 (by rfl) (by decide) (.slice ao t cap) t xs (by rfl) OW.out ⟨w8.heap.size + 1, 0, none⟩ 1 1 [.slice (some ⟨w8.heap.size, 0, none⟩) m m] (by rfl) (by rfl) NEW.out ONE.out (by decide) (by unfold maxLen; omega) (by omega) NB.out _ rfl ?_; intro g' c' w4 ho' hg' _ _; obtain ⟨⟨q0, q1, q2⟩, q3, q4⟩ := XN.out w4 hg'; have A4 : Hid _ := AN.out w4 g' c' hg' ho'; have Q0 : Hid _ := q0; have Q3 : Hid _ := q3; clear hg' ho' q0 q3)
          all_goals
            have q1' := q1
            have HQ : Hid _ := q1'
            have HF2 : Hid _ := q2
            go_wp2
            go_roundw
            case rel =>
              exact ⟨t + 1, _, _, by omega, by go_num, ⟨(World.cell?_setCell_other (h := fun e => by injection e with e1 e2; omega) ..).trans Q0.out, World.cell?_setCell_same _ _ _ HQ.out, by rw [World.frozen?_setCell]; exact HF2.out⟩, A4.out, Q3.out.setCell (p := ⟨w7.heap.size + 1, 1, none⟩) (Nat.le_refl _) _, by show _ ≤ (World.setCell _ _ _).heap.size; simp [World.setCell]; exact q4⟩
            case measure => simp [intOf]; omega
        · obtain rfl : t = u.al := by omega
          obtain ⟨ys, hoY, hzY⟩ := CRows_below (HB9.out.trans (Below.refl _ _)) HC.out
          have bx : Below w8.heap.size w8 (w8.alloc (.cells #[.slice (some ⟨w7.heap.size, 0, none⟩) u.vl u.vl, .slice ao u.al cap] 57)) := (Below.refl _ _).alloc (Nat.le_refl _) _
          have OWC : Hid (World.ownsRow (w8.alloc (.cells #[.slice (some ⟨w7.heap.size, 0, none⟩) u.vl u.vl, .slice ao u.al cap] 57)) w.heap.size 57 2 u5 k ys) := hoY.alloc _
          have TWO : Hid _ := @two_news w8 (.slice (some ⟨w7.heap.size, 0, none⟩) u.vl u.vl) (.slice ao u.al cap) 57
          have ONE2 : Hid (∀ v ∈ ([.slice (some ⟨w7.heap.size, 0, none⟩) u.vl u.vl, .slice ao u.al cap] : List Value), v.oneCell' = true) := by simp [Hid, Value.oneCell']
          have ZX : Hid (ZBlock (w8.alloc (.cells #[.slice (some ⟨w7.heap.size, 0, none⟩) u.vl u.vl, .slice ao u.al cap] 57)) w.heap.size u.vl (.slice (some ⟨w7.heap.size, 0, none⟩) u.vl u.vl)) := ZBlock_mono hs7 (ZBlock_same (t := 0) (Same_below (by rw [ZZ.out]; exact HB8.out.trans (bx.mono (by omega)))) (by decide) ZV2.out)
          have AX : Hid (ARows (w8.alloc (.cells #[.slice (some ⟨w7.heap.size, 0, none⟩) u.vl u.vl, .slice ao u.al cap] 57)) w.heap.size (.slice ao u.al cap) u.al R) := ARows_mono (by omega) (ARows_same (t := 0) (Same_below bx) (by decide) (by decide) HT.out)
          have CX : Hid (∀ i, i < k → ∃ u0 u1, (ys[i * 2]? = some u0 ∧ ys[i * 2 + 1]? = some u1) ∧ ZBlock (w8.alloc (.cells #[.slice (some ⟨w7.heap.size, 0, none⟩) u.vl u.vl, .slice ao u.al cap] 57)) w.heap.size (U i).vl u0 ∧ ARows (w8.alloc (.cells #[.slice (some ⟨w7.heap.size, 0, none⟩) u.vl u.vl, .slice ao u.al cap] 57)) w.heap.size u1 (U i).al fun j => ((U i).az j).toNat) := fun i hi => by
            obtain ⟨a0, a1, e, z, a⟩ := hzY i hi
            exact ⟨a0, a1, e, ZBlock_same (t := 0) (Same_below bx) (by decide) z, ARows_same (t := 0) (Same_below bx) (by decide) (by decide) a⟩
          have BX : Hid (Below w.heap.size w (w8.alloc (.cells #[.slice (some ⟨w7.heap.size, 0, none⟩) u.vl u.vl, .slice ao u.al cap] 57))) := HB.out.trans ((HB9.out.trans (bx.mono (HB9.out.size))).mono hs7)
          have NB : Hid (w.heap.size ≤ ((w8.alloc (.cells #[.slice (some ⟨w7.heap.size, 0, none⟩) u.vl u.vl, .slice ao u.al cap] 57))).heap.size) := BX.out.size
          have LT : Hid (∀ g, u5.ownBlock = some g → w.heap.size ≤ g) := fun g e => (hoY.lt g e).1
          clear hoY hzY bx MZ HA AZ2
          go_wp2_with (at_builtin; refine wpList_append_lies _ rfl _ _ 26 rfl w.heap.size 57 i1 (.agg #[.slice none 0 0, .slice none 0 0]) 2 48 Try.underlying26 I1.out.1 I1.out.2.1 I1.out.2.2.1 I1.out.2.2.2 rfl (by decide) _ _ _ rfl OWC.out _ 1 1 [.slice (some ⟨w7.heap.size, 0, none⟩) u.vl u.vl, .slice ao u.al cap] rfl rfl TWO.out ONE2.out (by decide) (by unfold maxLen; omega) (by omega) NB.out _ rfl ?_; intro g' c' w4 ho' hg' _ _; have C4 : Hid _ := CN.out _ w4 _ _ _ _ ys OWC.out hg' ho' CX.out ZX.out AX.out; have B4 : Hid (Below w.heap.size w w4) := BX.out.grown hg' NB.out LT.out; clear ho' hg')
          go_roundw
          case rel => exact ⟨k + 1, by omega, by go_num, C4.out, B4.out⟩
          case measure => simp [intOf]; omega
    · obtain rfl : k = len := by omega
      obtain ⟨ao, cap, e, hrow⟩ := CRows_row HC.out SM.out
      subst e
      clear HU MZ
      go_wp2
      go_ret2
      exact ⟨HB.out, .inr ⟨⟨⟩, _, _, rfl, hrow⟩⟩
end Go.Proofs.Ytalnfnkpemojhaa.EFreshRef
