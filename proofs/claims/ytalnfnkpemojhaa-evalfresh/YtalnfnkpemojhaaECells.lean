/-
  CELLS OF UNITS THAT LIE THERE (P8.1), and what the statements' sameInts and sameCells give of two that hold the same: true.
  Conditions: both lists lie there, and hold the same.
-/
import Derived.Test.YtalnfnkpemojhaaProg
import Derived.WalkKit
import Derived.OwnWalk
import Derived.BigQuiet
import Derived.Deep.QuietTactic
import Derived.Deep.RegionHeld3
namespace Go.Proofs.Ytalnfnkpemojhaa.ECells
open Go.RowKit

/-- numbers lie there -/
def Nums (w : World) (ao : Option Addr) (len : Nat) (z : Nat → Int) : Prop := ∀ i, i < len → ∃ bl off, ao = some ⟨bl, off, none⟩ ∧ w.cell? ⟨bl, off + i, none⟩ = some (.int .i64 (z i))

theorem Nums_below {w w' : World} (hb : Below w.heap.size w w') {ao : Option Addr} {len : Nat} {z : Nat → Int} (h : Nums w ao len z) : Nums w' ao len z := fun i hi => by
  obtain ⟨bl, off, e, t⟩ := h i hi
  exact ⟨bl, off, e, (hb.cell (World.block_lt_of_cell? w _ t)).trans t⟩

/-- what the cells of a unit hold -/
structure CellD where
  vl : Nat
  vs : Nat → Int
  al : Nat
  ll : Nat → Nat
  an : Nat → Nat → Int

/-- lists of numbers lie there -/
def IRow (w : World) (ao : Option Addr) (n : Nat) (ll : Nat → Nat) (an : Nat → Nat → Int) : Prop := ∀ i, i < n → ∃ bl off r c, ao = some ⟨bl, off, none⟩ ∧ w.cell? ⟨bl, off + i, none⟩ = some (.slice r (ll i) c) ∧ ll i ≤ maxLen ∧ Nums w r (ll i) (an i)

theorem IRow_below {w w' : World} (hb : Below w.heap.size w w') {ao : Option Addr} {n : Nat} {ll : Nat → Nat} {an : Nat → Nat → Int} (h : IRow w ao n ll an) : IRow w' ao n ll an := fun i hi => by
  obtain ⟨bl, off, r, c, e, t, hl, hn⟩ := h i hi
  exact ⟨bl, off, r, c, e, (hb.cell (World.block_lt_of_cell? w _ t)).trans t, hl, Nums_below hb hn⟩

/-- cells of units lie there -/
def CRow (w : World) (ao : Option Addr) (n : Nat) (C : Nat → CellD) : Prop := ∀ i, i < n → ∃ bl off va vc aa ac, ao = some ⟨bl, off, none⟩ ∧ (w.cell? ⟨bl, off + i * 2, none⟩ = some (.slice va (C i).vl vc) ∧ w.cell? ⟨bl, off + i * 2 + 1, none⟩ = some (.slice aa (C i).al ac)) ∧ ((C i).vl ≤ maxLen ∧ (C i).al ≤ maxLen) ∧ Nums w va (C i).vl (C i).vs ∧ IRow w aa (C i).al (C i).ll (C i).an

theorem CRow_below {w w' : World} (hb : Below w.heap.size w w') {ao : Option Addr} {n : Nat} {C : Nat → CellD} (h : CRow w ao n C) : CRow w' ao n C := fun i hi => by
  obtain ⟨bl, off, va, vc, aa, ac, e, ⟨t0, t1⟩, hl, hv, ha⟩ := h i hi
  have h0 := World.block_lt_of_cell? w _ t0
  exact ⟨bl, off, va, vc, aa, ac, e, ⟨(hb.cell h0).trans t0, (hb.cell (p := ⟨bl, off + i * 2 + 1, none⟩) h0).trans t1⟩, hl, Nums_below hb hv, IRow_below hb ha⟩

theorem sameInts (w : World) (a b : Option Addr) (len ca cb : Nat) (z : Nat → Int) (hl : len ≤ maxLen) (ha : Nums w a len z) (hb : Nums w b len z) :
    Calls Try.prog 25 #[.slice a len ca, .slice b len cb] w fun e w' => e = .returned (.bool true) ∧ Below w.heap.size w w' := by
  have HA : Hid (Nums w a len z) := ha
  have HB : Hid (Nums w b len z) := hb
  unfold maxLen at hl
  have hlI : (len : Int) ≤ 9223372036854775807 := by omega
  clear hl ha hb
  go_enter Try.func25, Try.ntmps25
  go_wp2
  go_loopw [5] (fun i wr => ∃ k : Nat, k ≤ len ∧ i = .int .i64 k ∧ Below w.heap.size w wr) (fun i _ => len - (intOf i).toNat)
  case atStart => exact ⟨0, Nat.zero_le _, rfl, Below.refl _ _⟩
  case round =>
    obtain ⟨k, hk, rfl, hbel⟩ := hrel
    by_cases hkl : k < len
    · obtain ⟨bl, off, ea, s⟩ := Nums_below hbel HA.out k hkl
      obtain ⟨bl', off', eb, s'⟩ := Nums_below hbel HB.out k hkl
      have hkI : (k : Int) < len := by omega
      generalize z k = x at s s'
      clear HA HB
      subst ea eb
      go_wp2
      go_quiet (fail)
      go_wp2
      go_roundw
      case rel => exact ⟨k + 1, by omega, by go_num, ⟨hbel.os, hbel.tape, hbel.output, hbel.size, hbel.block⟩⟩
      case measure => simp [intOf]; omega
    · obtain rfl : k = len := by omega
      clear HA HB
      go_wp2
      go_ret
      exact ⟨rfl, hbel⟩

set_option maxHeartbeats 4000000 in
theorem sameCells (w : World) (a b : Option Addr) (n ca cb : Nat) (C : Nat → CellD) (hn : n ≤ maxLen) (ha : CRow w a n C) (hb : CRow w b n C) :
    Calls Try.prog 11 #[.slice a n ca, .slice b n cb] w fun e w' => e = .returned (.bool true) ∧ Below w.heap.size w w' := by
  have HA : Hid (CRow w a n C) := ha
  have HB : Hid (CRow w b n C) := hb
  have ks : ∀ W a b len ca cb z, len ≤ maxLen → Nums W a len z → Nums W b len z → _ := fun W a b len ca cb z h h' h'' => sameInts W a b len ca cb z h h' h''
  have KS : Hid _ := ks
  unfold maxLen at hn
  have hnI : (n : Int) ≤ 9223372036854775807 := by omega
  clear hn ha hb ks
  go_enter Try.func11, Try.ntmps11
  go_wp2
  go_loopw [5] (fun i wr => ∃ k : Nat, k ≤ n ∧ i = .int .i64 k ∧ Hid (Below w.heap.size w wr)) (fun i _ => n - (intOf i).toNat)
  case atStart => exact ⟨0, Nat.zero_le _, rfl, Below.refl _ _⟩
  case round =>
    revert wr
    intro w0 hrel
    obtain ⟨k, hk, rfl, HW⟩ := hrel
    by_cases hkn : k < n
    case neg =>
      obtain rfl : k = n := by omega
      clear HA HB KS
      go_wp2
      go_ret
      exact ⟨rfl, HW.out⟩
    obtain ⟨bl, off, va, vc, aa, ac, ea, ⟨s0, s1⟩, ⟨hvl, hal⟩, hv, hi⟩ := HA.out k hkn
    obtain ⟨bl', off', va', vc', aa', ac', eb, ⟨s0', s1'⟩, _, hv', hi'⟩ := HB.out k hkn
    have hkI : (k : Int) < n := by omega
    have bs : ∀ W, Below w.heap.size w W → (W.cell? ⟨bl, off + k * 2, none⟩ = some (.slice va (C k).vl vc) ∧ W.cell? ⟨bl, off + k * 2 + 1, none⟩ = some (.slice aa (C k).al ac)) ∧ (W.cell? ⟨bl', off' + k * 2, none⟩ = some (.slice va' (C k).vl vc') ∧ W.cell? ⟨bl', off' + k * 2 + 1, none⟩ = some (.slice aa' (C k).al ac')) := fun W hb =>
      ⟨⟨(hb.cell (World.block_lt_of_cell? w _ s0)).trans s0, (hb.cell (World.block_lt_of_cell? w _ s1)).trans s1⟩, ⟨(hb.cell (World.block_lt_of_cell? w _ s0')).trans s0', (hb.cell (World.block_lt_of_cell? w _ s1')).trans s1'⟩⟩
    have kv : ∀ W, Below w.heap.size w W → _ := fun W hb => KS.out W va va' (C k).vl vc vc' (C k).vs hvl (Nums_below hb hv) (Nums_below hb hv')
    have ir : ∀ W, Below w.heap.size w W → IRow W aa (C k).al (C k).ll (C k).an ∧ IRow W aa' (C k).al (C k).ll (C k).an := fun W hb => ⟨IRow_below hb hi, IRow_below hb hi'⟩
    unfold maxLen at hvl hal
    generalize (C k).vl = vl at bs kv hvl
    generalize (C k).al = al at bs ir hal
    generalize (C k).ll = ll at ir
    generalize (C k).an = an at ir
    have hvI : (vl : Int) ≤ 9223372036854775807 := by omega
    have haI : (al : Int) ≤ 9223372036854775807 := by omega
    have BS : Hid _ := bs
    have KV : Hid _ := kv
    have IR : Hid _ := ir
    clear bs kv ir hv hv' hi hi' s0 s1 s0' s1' hvl HA HB
    subst ea eb
    go_wp2
    go_region_held3 (fun W => (W.cell? ⟨bl, off + k * 2, none⟩ = some (.slice va vl vc) ∧ W.cell? ⟨bl, off + k * 2 + 1, none⟩ = some (.slice aa al ac)) ∧ (W.cell? ⟨bl', off' + k * 2, none⟩ = some (.slice va' vl vc') ∧ W.cell? ⟨bl', off' + k * 2 + 1, none⟩ = some (.slice aa' al ac')))
      (first | (with_reducible exact BS.out _ HW.out.drew) | (with_reducible exact BS.out _ H1.out))
      (first
      | (go_at_call 25; refine (KV.out _ HW.out.drew).mono ?_; rintro e w1 ⟨rfl, hb1⟩; have H1 : Hid (Below w.heap.size w w1) := HW.out.drew.trans (hb1.mono HW.out.size); clear hb1)
      | fail)
    all_goals
      go_wp2
      clear KV
      go_loopw [6] (fun i wr => ∃ j : Nat, j ≤ al ∧ i = .int .i64 j ∧ Hid (Below w.heap.size w wr)) (fun i _ => al - (intOf i).toNat)
      case atStart => exact ⟨0, Nat.zero_le _, rfl, H1⟩
      case round =>
        clear H1
        revert wr
        intro w2 hrel
        obtain ⟨j, hj, rfl, H2⟩ := hrel
        obtain ⟨⟨q0, q1⟩, ⟨q2, q3⟩⟩ := BS.out _ H2.out
        by_cases hja : j < al
        · obtain ⟨bl2, off2, r, c, e2, d, hl, hd⟩ := (IR.out _ (Below.refl _ _)).1 j hja
          obtain ⟨bl3, off3, r', c', e3, d', _, hd'⟩ := (IR.out _ (Below.refl _ _)).2 j hja
          have hjI : (j : Int) < al := by omega
          have bt : ∀ W, Below w.heap.size w W → (W.cell? ⟨bl2, off2 + j, none⟩ = some (.slice r (ll j) c) ∧ W.cell? ⟨bl3, off3 + j, none⟩ = some (.slice r' (ll j) c')) ∧ (W.cell? ⟨bl, off + k * 2 + 1, none⟩ = some (.slice aa al ac) ∧ W.cell? ⟨bl', off' + k * 2 + 1, none⟩ = some (.slice aa' al ac')) := fun W hb =>
            ⟨⟨(hb.cell (World.block_lt_of_cell? w _ d)).trans d, (hb.cell (World.block_lt_of_cell? w _ d')).trans d'⟩, ⟨(BS.out W hb).1.2, (BS.out W hb).2.2⟩⟩
          have kj : ∀ W, Below w.heap.size w W → _ := fun W hb => KS.out W r r' (ll j) c c' (an j) hl (Nums_below hb hd) (Nums_below hb hd')
          generalize ll j = m at bt kj
          have BT : Hid _ := bt
          have KJ : Hid _ := kj
          clear bt kj d d' hd hd' hl IR KS BS q0 q1 q2 q3
          subst e2 e3
          obtain ⟨⟨q4, q5⟩, ⟨q1, q3⟩⟩ := BT.out _ H2.out
          go_wp2
          clear q1 q3 q4 q5
          go_region_held3 (fun W => (W.cell? ⟨bl2, off2 + j, none⟩ = some (.slice r m c) ∧ W.cell? ⟨bl3, off3 + j, none⟩ = some (.slice r' m c')) ∧ (W.cell? ⟨bl, off + k * 2 + 1, none⟩ = some (.slice (some ⟨bl2, off2, none⟩) al ac) ∧ W.cell? ⟨bl', off' + k * 2 + 1, none⟩ = some (.slice (some ⟨bl3, off3, none⟩) al ac')))
            (first | (with_reducible exact BT.out _ H2.out.drew) | (with_reducible exact BT.out _ H3.out))
            (first
            | (go_at_call 25; refine (KJ.out _ H2.out.drew).mono ?_; rintro e w3 ⟨rfl, hb3⟩; have H3 : Hid (Below w.heap.size w w3) := H2.out.drew.trans (hb3.mono H2.out.size); clear hb3)
            | fail)
          all_goals
            go_wp2
            go_roundw
            case rel => exact ⟨j + 1, by omega, by go_num, H3⟩
            case measure => simp [intOf]; omega
        · obtain rfl : j = al := by omega
          clear IR KS
          go_wp2
          go_roundw
          case rel => exact ⟨k + 1, by omega, by go_num, H2⟩
          case measure => simp [intOf]; omega
end Go.Proofs.Ytalnfnkpemojhaa.ECells
