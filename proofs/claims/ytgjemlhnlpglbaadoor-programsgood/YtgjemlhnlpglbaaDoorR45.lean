/-
  WHAT tree.idents, checkFunc, checkHead, countOf AND tree.Check GIVE, for every unit: each call returns, and lays new memory alone.
  Conditions: what the unit names lies there.
  WHAT names.Words AND THE DOCUMENT's UnitWords GIVE, of a unit that may be: how many words it has.
  Conditions: the unit's arrays lie there; it has no more of them, and no greater ones, than a unit may have.
-/
import Derived.Test.YtgjemlhnlpglbaaDoorR43
import Derived.Test.YtgjemlhnlpglbaaDoorR44
import Derived.Test.YtgjemlhnlpglbaaDoorR3
namespace Go.Proofs.YtgjemlhnlpglbaaDoor.UnitCheck
open Go.RowKit Go.Proofs.YtgjemlhnlpglbaaDoor.Ident Trees Forms

theorem box4 {w w' : World} {v0 v1 v2 v3 : Value} {t : TypeId} (hb : Below (w.alloc (.cells #[v0, v1, v2, v3] t)).heap.size (w.alloc (.cells #[v0, v1, v2, v3] t)) w') :
    w'.cell? ⟨w.heap.size, 0, none⟩ = some v0 ∧ w'.cell? ⟨w.heap.size, 1, none⟩ = some v1 ∧ w'.cell? ⟨w.heap.size, 2, none⟩ = some v2 ∧ w'.cell? ⟨w.heap.size, 3, none⟩ = some v3 := by
  have h : ∀ i : Nat, (⟨w.heap.size, i, none⟩ : Addr).block < (w.alloc (.cells #[v0, v1, v2, v3] t)).heap.size := fun i => by simp
  exact ⟨(hb.cell (h 0)).trans (by simp), (hb.cell (h 1)).trans (by simp), (hb.cell (h 2)).trans (by simp), (hb.cell (h 3)).trans (by simp)⟩
theorem box2 {w w' : World} {v0 v1 : Value} {t : TypeId} (hb : Below (w.alloc (.cells #[v0, v1] t)).heap.size (w.alloc (.cells #[v0, v1] t)) w') :
    w'.cell? ⟨w.heap.size, 0, none⟩ = some v0 ∧ w'.cell? ⟨w.heap.size, 1, none⟩ = some v1 := by
  have h : ∀ i : Nat, (⟨w.heap.size, i, none⟩ : Addr).block < (w.alloc (.cells #[v0, v1] t)).heap.size := fun i => by simp
  exact ⟨(hb.cell (h 0)).trans (by simp), (hb.cell (h 1)).trans (by simp)⟩

theorem first_vals {f : Nat → Int} {c : Int} (h : ∀ i, f i = 0 ∨ f i = c) : ∀ n, first f n = 0 ∨ first f n = c
  | 0 => .inl rfl
  | n + 1 => by
    rw [first]
    split
    · exact h n
    · exact first_vals h n
theorem namesFault_vals (z : Nat → ByteArray) (n : Nat) : namesFault z n = 0 ∨ namesFault z n = 4 := first_vals (fun i => by split <;> simp) n

set_option maxHeartbeats 4000000 in
theorem idents (w : World) (ao : Option Addr) (len cap : Nat) (z : Nat → ByteArray) (hl : len ≤ maxLen) (hin : Strs w ao len z) :
    Calls Tryd.prog 54 #[.slice ao len cap] w fun e w' => e = .returned (.bool (decide (namesFault z len = 0))) ∧ Below w.heap.size w w' := by
  obtain ⟨f, ef⟩ : ∃ f : Nat → Int, f = fun i => if identB (z i) = true then 0 else 4 := ⟨_, rfl⟩
  have HF : Hid (∀ i, f i = if identB (z i) = true then 0 else 4) := fun i => by rw [ef]
  have EF : Hid (namesFault z len = first f len) := by rw [ef]; exact (rfl : namesFault z len = _)
  have HI : Hid (Strs w ao len z) := hin
  unfold maxLen at hl
  have hlI : (len : Int) ≤ 9223372036854775807 := by omega
  clear ef hin hl
  go_enter Tryd.func54, Tryd.ntmps54
  go_wp2
  go_loopw [7] (fun i wr => ∃ k : Nat, k ≤ len ∧ i = .int .i64 k ∧ first f k = 0 ∧ Below w.heap.size w wr) (fun i _ => len - (intOf i).toNat)
  case atStart => exact ⟨0, Nat.zero_le _, rfl, rfl, Below.refl _ _⟩
  case round =>
    obtain ⟨k, hk, rfl, hf, hbel⟩ := hrel
    have FK : Hid (first f k = 0) := hf
    clear hf
    by_cases hkl : k < len
    · obtain ⟨⟨bl, off, ea, t0⟩, hs⟩ := Strs_below hbel HI.out k hkl
      subst ea
      have FZ := HF.out k
      generalize z k = y at t0 hs FZ
      rcases Bool.eq_false_or_eq_true (identB y) with hb | hb
      · have ks : ∀ W, Calls Tryd.prog 53 #[.string y] W fun e w' => e = .returned (.bool true) ∧ Below W.heap.size W w' := fun W => by rw [← hb]; exact ident y hs W
        have FZ2 : Hid (f k = 0) := by rw [FZ, hb]; exact (rfl : _ = _)
        clear FZ HI HF hb
        go_wp2_with (go_at_call 53; refine (ks _).mono ?_; rintro e w1 ⟨rfl, hb1⟩; have hb2 := hbel.trans (hb1.mono hbel.size))
        go_roundw
        case rel => exact ⟨k + 1, by omega, by go_num, by rw [first_succ FK.out]; exact FZ2.out, hb2⟩
        case measure => simp [intOf]; omega
      · have ks : ∀ W, Calls Tryd.prog 53 #[.string y] W fun e w' => e = .returned (.bool false) ∧ Below W.heap.size W w' := fun W => by rw [← hb]; exact ident y hs W
        have FZ2 : f k = 4 := by rw [FZ, hb]; rfl
        have E : Hid (decide (namesFault z len = 0) = false) := by rw [EF.out, first_stops hkl FK.out (by rw [FZ2]; decide), FZ2]; exact (rfl : _ = _)
        clear FZ FZ2 HI HF hb EF
        go_wp2_with (go_at_call 53; refine (ks _).mono ?_; rintro e w1 ⟨rfl, hb1⟩; have hb2 := hbel.trans (hb1.mono hbel.size))
        go_ret
        exact ⟨by rw [E.out]; rfl, hb2⟩
    · obtain rfl : k = len := by omega
      have E : Hid (decide (namesFault z k = 0) = true) := by rw [EF.out, FK.out]; exact (rfl : _ = _)
      clear HI HF EF FK
      go_wp2
      go_ret
      exact ⟨by rw [E.out]; rfl, hbel⟩

set_option maxHeartbeats 4000000 in
theorem checkFunc (f : FuncD) (w : World) (hf : FuncLies w f) :
    Calls Tryd.prog 35 #[.agg #[.string f.name, .bool f.op, .slice f.pa f.pl f.pc, .slice f.ba f.bl f.bc]] w fun e w' => e = .returned (.int .i64 (funcFault f)) ∧ Below w.heap.size w w' := by
  have FF : Hid (funcFault f = if identB f.name = true then if f.pl ≤ 4 then if namesFault f.ps f.pl = 0 then stmtsFault 12 f.bl f.body else namesFault f.ps f.pl else 1 else 4) := (rfl : funcFault f = _)
  have NV := namesFault_vals f.ps f.pl
  have k15 : ∀ W, _ := fun W => ident f.name hf.1 W
  have k43 : ∀ W, Below w.heap.size w W → _ := fun W hb => idents W f.pa f.pl f.pc f.ps hf.2.1 (Strs_below hb hf.2.2.2.1)
  have k44 : ∀ W, Below w.heap.size w W → _ := fun W hb => CheckStmts.checkStmts 12 1 W f.ba f.bl f.bc f.body (by decide) (by decide) hf.2.2.1 (SRow_below hb hf.2.2.2.2)
  have hlM := hf.2.1
  generalize stmtsFault 12 f.bl f.body = S at k44 FF
  generalize namesFault f.ps f.pl = N at k43 FF NV
  generalize identB f.name = I at k15 FF
  generalize funcFault f = R at FF ⊢
  obtain ⟨name, op, pa, pl, pc, ps, ba, bl, bc, body⟩ := f
  dsimp only at FF k15 k43 k44 hlM ⊢
  unfold maxLen at hlM
  have hlI : (pl : Int) ≤ 9223372036854775807 := by omega
  have hb0 := below1 w (.cells #[.string name, .bool op, .slice pa pl pc, .slice ba bl bc] 37)
  have K43 : Hid _ := k43
  have K44 : Hid _ := k44
  clear hf hlM k43 k44
  cases I
  · have E : Hid (R = 4) := by rw [FF.out]; exact (rfl : _ = _)
    clear FF NV
    go_enter Tryd.func35, Tryd.ntmps35
    go_wp2_with (go_at_call 53; refine (k15 _).mono ?_; rintro e w1 ⟨rfl, hb1⟩; have hb2 := hb0.trans (hb1.mono hb0.size))
    go_ret
    exact ⟨by rw [E.out]; rfl, hb2⟩
  · by_cases hl : pl ≤ 4
    · have hl4 : (pl : Int) ≤ 4 := by omega
      have FF2 : Hid (R = if N = 0 then S else N) := by rw [FF.out, if_pos rfl, if_pos hl]; exact (rfl : _ = _)
      clear FF hl hlI
      rcases NV with rfl | rfl
      · have E : Hid (R = S) := by rw [FF2.out]; exact (rfl : _ = _)
        have d0 : decide ((0 : Int) = 0) = true := rfl
        clear FF2
        go_enter Tryd.func35, Tryd.ntmps35
        go_wp2_with (first
          | (go_at_call 53; refine (k15 _).mono ?_; rintro e w1 ⟨rfl, hb1⟩; have hb2 := hb0.trans (hb1.mono hb0.size); obtain ⟨q0, q1, q2, q3⟩ := box4 hb1; have HB1 : Hid _ := hb1; clear hb1)
          | (go_at_call 54; refine (K43.out _ hb2).mono ?_; rintro e w2 ⟨rfl, hb3⟩; have hb4 := hb2.trans (hb3.mono hb2.size); clear q0 q1 q2 q3; obtain ⟨q0, q1, q2, q3⟩ := box4 (HB1.out.trans (hb3.mono HB1.out.size)))
          | (go_at_call 55; refine (K44.out _ hb4).mono ?_; rintro e w3 ⟨rfl, hb5⟩; have hb6 := hb4.trans (hb5.mono hb4.size)))
        go_ret
        exact ⟨by rw [E.out]; rfl, hb6⟩
      · have E : Hid (R = 4) := by rw [FF2.out]; exact (rfl : _ = _)
        have d0 : decide ((4 : Int) = 0) = false := rfl
        clear FF2 K44
        go_enter Tryd.func35, Tryd.ntmps35
        go_wp2_with (first
          | (go_at_call 53; refine (k15 _).mono ?_; rintro e w1 ⟨rfl, hb1⟩; have hb2 := hb0.trans (hb1.mono hb0.size); obtain ⟨q0, q1, q2, q3⟩ := box4 hb1; have HB1 : Hid _ := hb1; clear hb1)
          | (go_at_call 54; refine (K43.out _ hb2).mono ?_; rintro e w2 ⟨rfl, hb3⟩; have hb4 := hb2.trans (hb3.mono hb2.size)))
        go_ret
        exact ⟨by rw [E.out]; rfl, hb4⟩
    · have hl4 : (4 : Int) < pl := by omega
      have E : Hid (R = 1) := by rw [FF.out, if_pos rfl, if_neg hl]; exact (rfl : _ = _)
      clear FF NV hl
      go_enter Tryd.func35, Tryd.ntmps35
      go_wp2_with (go_at_call 53; refine (k15 _).mono ?_; rintro e w1 ⟨rfl, hb1⟩; have hb2 := hb0.trans (hb1.mono hb0.size); obtain ⟨q0, q1, q2, q3⟩ := box4 hb1)
      go_ret
      exact ⟨by rw [E.out]; rfl, hb2⟩

theorem funcFault_zero {f : FuncD} (h : funcFault f = 0) : stmtsFault 12 f.bl f.body = 0 := by
  unfold funcFault at h
  split at h
  · split at h
    · split at h
      · exact h
      · contradiction
    · cases h
  · cases h

set_option maxHeartbeats 4000000 in
theorem countOf (w : World) (ao : Option Addr) (len cap : Nat) (F : Nat → FuncD) (hl : len ≤ maxLen) (hin : FRow w ao len F) (h0 : first (fun i => funcFault (F i)) len = 0) :
    Calls Tryd.prog 36 #[.slice ao len cap] w fun e w' => e = .returned (.int .i64 (wrap64 (sum (fun i => count 12 (F i).bl (F i).body) len : Nat))) ∧ Below w.heap.size w w' := by
  have z := first_zero h0
  have k45 : ∀ (k : Nat) (W : World), k < len → FuncLies W (F k) → _ := fun k W hk h => Count.countStmts 12 W (F k).ba (F k).bl (F k).bc (F k).body h.2.2.1 h.2.2.2.2 (funcFault_zero (z k hk))
  have KB : Hid _ := k45
  obtain ⟨f, ef⟩ : ∃ f : Nat → Nat, f = fun i => count 12 (F i).bl (F i).body := ⟨_, rfl⟩
  have HF : Hid (∀ i, f i = count 12 (F i).bl (F i).body) := fun i => by rw [ef]
  rw [← ef]
  have HI : Hid (FRow w ao len F) := hin
  unfold maxLen at hl
  have hlI : (len : Int) ≤ 9223372036854775807 := by omega
  clear k45 ef hin hl z h0
  go_enter Tryd.func36, Tryd.ntmps36
  go_wp2
  go_loopw [3, 8] (fun v i wr => ∃ (k : Nat) (s : Int), k ≤ len ∧ i = .int .i64 k ∧ v = .int .i64 s ∧ s = wrap64 ((sum f k : Nat) : Int) ∧ Below w.heap.size w wr) (fun _ i _ => len - (intOf i).toNat)
  case atStart => exact ⟨0, 0, Nat.zero_le _, rfl, rfl, (Count.wrap_len (n := 0) (by decide)).symm, Below.refl _ _⟩
  case round =>
    obtain ⟨k, s, hk, rfl, rfl, es, hbel⟩ := hrel
    have ES : Hid (s = wrap64 ((sum f k : Nat) : Int)) := es
    clear es
    by_cases hkl : k < len
    · obtain ⟨⟨bl, off, ea, t0, t1, t2, t3⟩, hS⟩ := FRow_below hbel HI.out k hkl
      have kB := fun W (h : Below wr.heap.size wr W) => KB.out k W hkl (FuncLies_below h hS)
      obtain ⟨x1, e1⟩ : ∃ x : Int, x = wrap64 (count 12 (F k).bl (F k).body : Nat) := ⟨_, rfl⟩
      rw [← e1] at kB
      have NEXT : Hid (wrap64 (s + x1) = wrap64 ((sum f (k + 1) : Nat) : Int)) := by
        have e : ((sum f k : Nat) : Int) + (count 12 (F k).bl (F k).body : Int) = ((sum f (k + 1) : Nat) : Int) := by
          rw [show sum f (k + 1) = sum f k + f k from rfl, HF.out k]
          omega
        rw [ES.out, e1, Count.wrap_add2, e]
        exact (rfl : _ = _)
      clear hS e1 KB HI HF
      generalize F k = y at t0 t1 t2 t3 kB
      have KB : Hid _ := kB
      obtain ⟨name, op, pa, pl, pc, ps, ba, bl', bc, body⟩ := y
      subst ea
      dsimp only at t0 t1 t2 t3 KB
      have hb0 := below1 wr (.cells #[.string name, .bool op, .slice pa pl pc, .slice ba bl' bc] 37)
      clear kB
      go_wp2_with (go_at_call 56; refine (KB.out _ hb0).mono ?_; rintro e w1 ⟨rfl, hb1⟩; have hb2 := hbel.trans ((hb0.trans (hb1.mono hb0.size)).mono hbel.size))
      go_roundw
      case rel => exact ⟨k + 1, _, by omega, by go_num, rfl, by first | exact NEXT.out | (rw [← NEXT.out]; simp only [Count.wrapEq]), hb2⟩
      case measure => simp [intOf]; omega
    · obtain rfl : k = len := by omega
      clear KB HI HF
      go_wp2
      go_ret
      exact ⟨by rw [← ES.out]; rfl, hbel⟩
end Go.Proofs.YtgjemlhnlpglbaaDoor.UnitCheck

namespace Go.Proofs.YtgjemlhnlpglbaaDoor.NWords
open Go.RowKit Go.Proofs.YtgjemlhnlpglbaaDoor.Ident Trees Forms UnitCheck NSense

theorem sizes_bd {z : Nat → Int} : ∀ (n : Nat), (∀ i, i < n → 1 ≤ z i ∧ z i ≤ 10) → 0 ≤ sizes z n ∧ sizes z n ≤ 10 * n
  | 0, _ => ⟨Int.le_refl _, by simp [sizes]⟩
  | n + 1, h => by
    have h1 := sizes_bd n fun i hi => h i (by omega)
    have h2 := h n (by omega)
    rw [sizes]
    omega

/-- a unit that may be has few arrays, and small ones -/
theorem sized {u : UnitD} (h : unitFault u = 0) : u.vl ≤ 8 ∧ u.al ≤ 3 ∧ ∀ i, i < u.al → 1 ≤ u.az i ∧ u.az i ≤ 10 := by
  have hf : frontFault u = 0 := by
    unfold unitFault at h
    split at h
    · assumption
    · exact h
  unfold frontFault at hf
  split at hf
  · split at hf
    · split at hf
      · refine ⟨by omega, by omega, fun i hi => ?_⟩
        have := first_zero hf i hi
        unfold arrayFault at this
        split at this
        · split at this
          · assumption
          · cases this
        · cases this
      · contradiction
    · cases hf
  · cases hf

set_option maxHeartbeats 1000000 in
theorem words (u : UnitD) (w : World) (hu : UnitLies w u) (hv : u.vl ≤ 8) (ha : u.al ≤ 3) (hz : ∀ i, i < u.al → 1 ≤ u.az i ∧ u.az i ≤ 10) :
    Calls Tryd.prog 39 #[.agg #[.string u.name, .slice u.va u.vl u.vc, .slice u.aa u.al u.ac, .slice u.fa u.fl u.fc]] w fun e w' => e = .returned (.int .i64 (u.vl + sizes u.az u.al)) ∧ Below w.heap.size w w' := by
  have hA := hu.2.2.1
  clear hu
  obtain ⟨name, va, vl, vc, vs, aa, al, ac, an, az, fa, fl, fc, fs⟩ := u
  dsimp only at *
  have hb0 := below1 w (.cells #[.string name, .slice va vl vc, .slice aa al ac, .slice fa fl fc] 41)
  have HA : Hid _ := hA
  have HZ : Hid _ := hz
  have HB0 : Hid _ := hb0
  have hvI : (vl : Int) ≤ 8 := by omega
  have haI : (al : Int) ≤ 3 := by omega
  clear hA hz hb0 hv ha
  go_enter Tryd.func39, Tryd.ntmps39
  go_wp2
  go_loopw [3, 12] (fun n i wr => ∃ k : Nat, k ≤ al ∧ i = .int .i64 k ∧ n = .int .i64 (vl + sizes az k) ∧ Below w.heap.size w wr) (fun _ i _ => al - (intOf i).toNat)
  case atStart => exact ⟨0, Nat.zero_le _, rfl, by simp [sizes], HB0.out⟩
  case round =>
    obtain ⟨k, hk, rfl, rfl, hbel⟩ := hrel
    have hsz := sizes_bd (z := az) k (fun i hi => HZ.out i (by omega))
    have HB : Hid _ := hbel
    by_cases hkl : k < al
    · obtain ⟨⟨bl, off, ea, t0, t1⟩, _⟩ := ARow_below hbel HA.out k hkl
      obtain ⟨hy0, hy1⟩ := HZ.out k hkl
      have ES : Hid (sizes az (k + 1) = sizes az k + az k) := (rfl : sizes az (k + 1) = _)
      subst ea
      clear hbel HA HZ
      generalize sizes az k = S at hsz ES ⊢
      generalize az k = y at hy0 hy1 t1 ES
      obtain ⟨hs0, hs1⟩ := hsz
      have hkI : (k : Int) < al := by omega
      go_wp2
      go_roundw
      case rel => exact ⟨k + 1, by omega, by go_num, by rw [ES.out, Int.add_assoc], HB.out.alloc HB.out.size _⟩
      case measure => simp [intOf]; omega
    · obtain rfl : k = al := by omega
      clear HA HZ hbel
      obtain ⟨S, eS⟩ : ∃ S, S = sizes az k := ⟨_, rfl⟩
      rw [← eS] at hsz ⊢
      have ES : Hid (S = sizes az k) := eS
      obtain ⟨hs0, hs1⟩ := hsz
      clear eS
      go_wp2
      go_ret
      exact ⟨by rw [← ES.out]; rfl, HB.out⟩

end Go.Proofs.YtgjemlhnlpglbaaDoor.NWords
