/-
  WHAT tree.idents, checkFunc, checkHead, countOf AND tree.Check GIVE, for every unit: each call returns, and lays new memory alone.
  Conditions: what the unit names lies there.
  WHAT names.Words AND THE DOCUMENT's UnitWords GIVE, of a unit that may be: how many words it has.
  Conditions: the unit's arrays lie there; it has no more of them, and no greater ones, than a unit may have.
  WHAT names.checkUnit GIVES, of a unit that may be: whether its names, and all that is named in it, are there, each once (P7.2).
  Conditions: the units lie there; the unit may be.
  WHAT names.tooManyWords GIVES, of units that may be.
  Conditions: the units lie there.
-/
import Derived.Test.YtalnfnkpemojhaaQ13
import Derived.Test.YtalnfnkpemojhaaQ14
import Derived.Test.YtalnfnkpemojhaaQ2
import Derived.Test.YtalnfnkpemojhaaQ6
import Derived.Test.YtalnfnkpemojhaaQ8
import Derived.Test.YtalnfnkpemojhaaQ3
namespace Go.Proofs.Ytalnfnkpemojhaa.UnitCheck
open Go.RowKit Go.Proofs.Ytalnfnkpemojhaa.Ident Trees Forms

theorem box4 {w w' : World} {v0 v1 v2 v3 : Value} {t : TypeId} (hb : Below (w.alloc (.cells #[v0, v1, v2, v3] t)).heap.size (w.alloc (.cells #[v0, v1, v2, v3] t)) w') :
    w'.cell? ⟨w.heap.size, 0, none⟩ = some v0 ∧ w'.cell? ⟨w.heap.size, 1, none⟩ = some v1 ∧ w'.cell? ⟨w.heap.size, 2, none⟩ = some v2 ∧ w'.cell? ⟨w.heap.size, 3, none⟩ = some v3 := by
  have h : ∀ i : Nat, (⟨w.heap.size, i, none⟩ : Addr).block < (w.alloc (.cells #[v0, v1, v2, v3] t)).heap.size := fun i => by simp
  exact ⟨(hb.cell (h 0)).trans (by simp), (hb.cell (h 1)).trans (by simp), (hb.cell (h 2)).trans (by simp), (hb.cell (h 3)).trans (by simp)⟩
theorem box2 {w w' : World} {v0 v1 : Value} {t : TypeId} (hb : Below (w.alloc (.cells #[v0, v1] t)).heap.size (w.alloc (.cells #[v0, v1] t)) w') :
    w'.cell? ⟨w.heap.size, 0, none⟩ = some v0 ∧ w'.cell? ⟨w.heap.size, 1, none⟩ = some v1 := by
  have h : ∀ i : Nat, (⟨w.heap.size, i, none⟩ : Addr).block < (w.alloc (.cells #[v0, v1] t)).heap.size := fun i => by simp
  exact ⟨(hb.cell (h 0)).trans (by simp), (hb.cell (h 1)).trans (by simp)⟩

theorem first_vals {f : Nat → Int} {c : Int} (h : ∀ i, f i = 0 ∨ f i = c) : ∀ n, first f n = 0 ∨ first f n = c
  | 0 => .inl rfl
  | n + 1 => by
    rw [first]
    split
    · exact h n
    · exact first_vals h n
theorem namesFault_vals (z : Nat → ByteArray) (n : Nat) : namesFault z n = 0 ∨ namesFault z n = 4 := first_vals (fun i => by split <;> simp) n

set_option maxHeartbeats 4000000 in
theorem idents (w : World) (ao : Option Addr) (len cap : Nat) (z : Nat → ByteArray) (hl : len ≤ maxLen) (hin : Strs w ao len z) :
    Calls Try.prog 52 #[.slice ao len cap] w fun e w' => e = .returned (.bool (decide (namesFault z len = 0))) ∧ Below w.heap.size w w' := by
  obtain ⟨f, ef⟩ : ∃ f : Nat → Int, f = fun i => if identB (z i) = true then 0 else 4 := ⟨_, rfl⟩
  have HF : Hid (∀ i, f i = if identB (z i) = true then 0 else 4) := fun i => by rw [ef]
  have EF : Hid (namesFault z len = first f len) := by rw [ef]; exact (rfl : namesFault z len = _)
  have HI : Hid (Strs w ao len z) := hin
  unfold maxLen at hl
  have hlI : (len : Int) ≤ 9223372036854775807 := by omega
  clear ef hin hl
  go_enter Try.func52, Try.ntmps52
  go_wp2
  go_loopw [7] (fun i wr => ∃ k : Nat, k ≤ len ∧ i = .int .i64 k ∧ first f k = 0 ∧ Below w.heap.size w wr) (fun i _ => len - (intOf i).toNat)
  case atStart => exact ⟨0, Nat.zero_le _, rfl, rfl, Below.refl _ _⟩
  case round =>
    obtain ⟨k, hk, rfl, hf, hbel⟩ := hrel
    have FK : Hid (first f k = 0) := hf
    clear hf
    by_cases hkl : k < len
    · obtain ⟨⟨bl, off, ea, t0⟩, hs⟩ := Strs_below hbel HI.out k hkl
      subst ea
      have FZ := HF.out k
      generalize z k = y at t0 hs FZ
      rcases Bool.eq_false_or_eq_true (identB y) with hb | hb
      · have ks : ∀ W, Calls Try.prog 51 #[.string y] W fun e w' => e = .returned (.bool true) ∧ Below W.heap.size W w' := fun W => by rw [← hb]; exact ident y hs W
        have FZ2 : Hid (f k = 0) := by rw [FZ, hb]; exact (rfl : _ = _)
        clear FZ HI HF hb
        go_wp2_with (go_at_call 51; refine (ks _).mono ?_; rintro e w1 ⟨rfl, hb1⟩; have hb2 := hbel.trans (hb1.mono hbel.size))
        go_roundw
        case rel => exact ⟨k + 1, by omega, by go_num, by rw [first_succ FK.out]; exact FZ2.out, hb2⟩
        case measure => simp [intOf]; omega
      · have ks : ∀ W, Calls Try.prog 51 #[.string y] W fun e w' => e = .returned (.bool false) ∧ Below W.heap.size W w' := fun W => by rw [← hb]; exact ident y hs W
        have FZ2 : f k = 4 := by rw [FZ, hb]; rfl
        have E : Hid (decide (namesFault z len = 0) = false) := by rw [EF.out, first_stops hkl FK.out (by rw [FZ2]; decide), FZ2]; exact (rfl : _ = _)
        clear FZ FZ2 HI HF hb EF
        go_wp2_with (go_at_call 51; refine (ks _).mono ?_; rintro e w1 ⟨rfl, hb1⟩; have hb2 := hbel.trans (hb1.mono hbel.size))
        go_ret
        exact ⟨by rw [E.out]; rfl, hb2⟩
    · obtain rfl : k = len := by omega
      have E : Hid (decide (namesFault z k = 0) = true) := by rw [EF.out, FK.out]; exact (rfl : _ = _)
      clear HI HF EF FK
      go_wp2
      go_ret
      exact ⟨by rw [E.out]; rfl, hbel⟩

set_option maxHeartbeats 4000000 in
theorem checkFunc (f : FuncD) (w : World) (hf : FuncLies w f) :
    Calls Try.prog 30 #[.agg #[.string f.name, .bool f.op, .slice f.pa f.pl f.pc, .slice f.ba f.bl f.bc]] w fun e w' => e = .returned (.int .i64 (funcFault f)) ∧ Below w.heap.size w w' := by
  have FF : Hid (funcFault f = if identB f.name = true then if f.pl ≤ 4 then if namesFault f.ps f.pl = 0 then stmtsFault 12 f.bl f.body else namesFault f.ps f.pl else 1 else 4) := (rfl : funcFault f = _)
  have NV := namesFault_vals f.ps f.pl
  have k15 : ∀ W, _ := fun W => ident f.name hf.1 W
  have k43 : ∀ W, Below w.heap.size w W → _ := fun W hb => idents W f.pa f.pl f.pc f.ps hf.2.1 (Strs_below hb hf.2.2.2.1)
  have k44 : ∀ W, Below w.heap.size w W → _ := fun W hb => CheckStmts.checkStmts 12 1 W f.ba f.bl f.bc f.body (by decide) (by decide) hf.2.2.1 (SRow_below hb hf.2.2.2.2)
  have hlM := hf.2.1
  generalize stmtsFault 12 f.bl f.body = S at k44 FF
  generalize namesFault f.ps f.pl = N at k43 FF NV
  generalize identB f.name = I at k15 FF
  generalize funcFault f = R at FF ⊢
  obtain ⟨name, op, pa, pl, pc, ps, ba, bl, bc, body⟩ := f
  dsimp only at FF k15 k43 k44 hlM ⊢
  unfold maxLen at hlM
  have hlI : (pl : Int) ≤ 9223372036854775807 := by omega
  have hb0 := below1 w (.cells #[.string name, .bool op, .slice pa pl pc, .slice ba bl bc] 52)
  have K43 : Hid _ := k43
  have K44 : Hid _ := k44
  clear hf hlM k43 k44
  cases I
  · have E : Hid (R = 4) := by rw [FF.out]; exact (rfl : _ = _)
    clear FF NV
    go_enter Try.func30, Try.ntmps30
    go_wp2_with (go_at_call 51; refine (k15 _).mono ?_; rintro e w1 ⟨rfl, hb1⟩; have hb2 := hb0.trans (hb1.mono hb0.size))
    go_ret
    exact ⟨by rw [E.out]; rfl, hb2⟩
  · by_cases hl : pl ≤ 4
    · have hl4 : (pl : Int) ≤ 4 := by omega
      have FF2 : Hid (R = if N = 0 then S else N) := by rw [FF.out, if_pos rfl, if_pos hl]; exact (rfl : _ = _)
      clear FF hl hlI
      rcases NV with rfl | rfl
      · have E : Hid (R = S) := by rw [FF2.out]; exact (rfl : _ = _)
        have d0 : decide ((0 : Int) = 0) = true := rfl
        clear FF2
        go_enter Try.func30, Try.ntmps30
        go_wp2_with (first
          | (go_at_call 51; refine (k15 _).mono ?_; rintro e w1 ⟨rfl, hb1⟩; have hb2 := hb0.trans (hb1.mono hb0.size); obtain ⟨q0, q1, q2, q3⟩ := box4 hb1; have HB1 : Hid _ := hb1; clear hb1)
          | (go_at_call 52; refine (K43.out _ hb2).mono ?_; rintro e w2 ⟨rfl, hb3⟩; have hb4 := hb2.trans (hb3.mono hb2.size); clear q0 q1 q2 q3; obtain ⟨q0, q1, q2, q3⟩ := box4 (HB1.out.trans (hb3.mono HB1.out.size)))
          | (go_at_call 53; refine (K44.out _ hb4).mono ?_; rintro e w3 ⟨rfl, hb5⟩; have hb6 := hb4.trans (hb5.mono hb4.size)))
        go_ret
        exact ⟨by rw [E.out]; rfl, hb6⟩
      · have E : Hid (R = 4) := by rw [FF2.out]; exact (rfl : _ = _)
        have d0 : decide ((4 : Int) = 0) = false := rfl
        clear FF2 K44
        go_enter Try.func30, Try.ntmps30
        go_wp2_with (first
          | (go_at_call 51; refine (k15 _).mono ?_; rintro e w1 ⟨rfl, hb1⟩; have hb2 := hb0.trans (hb1.mono hb0.size); obtain ⟨q0, q1, q2, q3⟩ := box4 hb1; have HB1 : Hid _ := hb1; clear hb1)
          | (go_at_call 52; refine (K43.out _ hb2).mono ?_; rintro e w2 ⟨rfl, hb3⟩; have hb4 := hb2.trans (hb3.mono hb2.size)))
        go_ret
        exact ⟨by rw [E.out]; rfl, hb4⟩
    · have hl4 : (4 : Int) < pl := by omega
      have E : Hid (R = 1) := by rw [FF.out, if_pos rfl, if_neg hl]; exact (rfl : _ = _)
      clear FF NV hl
      go_enter Try.func30, Try.ntmps30
      go_wp2_with (go_at_call 51; refine (k15 _).mono ?_; rintro e w1 ⟨rfl, hb1⟩; have hb2 := hb0.trans (hb1.mono hb0.size); obtain ⟨q0, q1, q2, q3⟩ := box4 hb1)
      go_ret
      exact ⟨by rw [E.out]; rfl, hb2⟩

theorem funcFault_zero {f : FuncD} (h : funcFault f = 0) : stmtsFault 12 f.bl f.body = 0 := by
  unfold funcFault at h
  split at h
  · split at h
    · split at h
      · exact h
      · contradiction
    · cases h
  · cases h

set_option maxHeartbeats 4000000 in
theorem countOf (w : World) (ao : Option Addr) (len cap : Nat) (F : Nat → FuncD) (hl : len ≤ maxLen) (hin : FRow w ao len F) (h0 : first (fun i => funcFault (F i)) len = 0) :
    Calls Try.prog 31 #[.slice ao len cap] w fun e w' => e = .returned (.int .i64 (wrap64 (sum (fun i => count 12 (F i).bl (F i).body) len : Nat))) ∧ Below w.heap.size w w' := by
  have z := first_zero h0
  have k45 : ∀ (k : Nat) (W : World), k < len → FuncLies W (F k) → _ := fun k W hk h => Count.countStmts 12 W (F k).ba (F k).bl (F k).bc (F k).body h.2.2.1 h.2.2.2.2 (funcFault_zero (z k hk))
  have KB : Hid _ := k45
  obtain ⟨f, ef⟩ : ∃ f : Nat → Nat, f = fun i => count 12 (F i).bl (F i).body := ⟨_, rfl⟩
  have HF : Hid (∀ i, f i = count 12 (F i).bl (F i).body) := fun i => by rw [ef]
  rw [← ef]
  have HI : Hid (FRow w ao len F) := hin
  unfold maxLen at hl
  have hlI : (len : Int) ≤ 9223372036854775807 := by omega
  clear k45 ef hin hl z h0
  go_enter Try.func31, Try.ntmps31
  go_wp2
  go_loopw [3, 8] (fun v i wr => ∃ (k : Nat) (s : Int), k ≤ len ∧ i = .int .i64 k ∧ v = .int .i64 s ∧ s = wrap64 ((sum f k : Nat) : Int) ∧ Below w.heap.size w wr) (fun _ i _ => len - (intOf i).toNat)
  case atStart => exact ⟨0, 0, Nat.zero_le _, rfl, rfl, (Count.wrap_len (n := 0) (by decide)).symm, Below.refl _ _⟩
  case round =>
    obtain ⟨k, s, hk, rfl, rfl, es, hbel⟩ := hrel
    have ES : Hid (s = wrap64 ((sum f k : Nat) : Int)) := es
    clear es
    by_cases hkl : k < len
    · obtain ⟨⟨bl, off, ea, t0, t1, t2, t3⟩, hS⟩ := FRow_below hbel HI.out k hkl
      have kB := fun W (h : Below wr.heap.size wr W) => KB.out k W hkl (FuncLies_below h hS)
      obtain ⟨x1, e1⟩ : ∃ x : Int, x = wrap64 (count 12 (F k).bl (F k).body : Nat) := ⟨_, rfl⟩
      rw [← e1] at kB
      have NEXT : Hid (wrap64 (s + x1) = wrap64 ((sum f (k + 1) : Nat) : Int)) := by
        have e : ((sum f k : Nat) : Int) + (count 12 (F k).bl (F k).body : Int) = ((sum f (k + 1) : Nat) : Int) := by
          rw [show sum f (k + 1) = sum f k + f k from rfl, HF.out k]
          omega
        rw [ES.out, e1, Count.wrap_add2, e]
        exact (rfl : _ = _)
      clear hS e1 KB HI HF
      generalize F k = y at t0 t1 t2 t3 kB
      have KB : Hid _ := kB
      obtain ⟨name, op, pa, pl, pc, ps, ba, bl', bc, body⟩ := y
      subst ea
      dsimp only at t0 t1 t2 t3 KB
      have hb0 := below1 wr (.cells #[.string name, .bool op, .slice pa pl pc, .slice ba bl' bc] 52)
      clear kB
      go_wp2_with (go_at_call 54; refine (KB.out _ hb0).mono ?_; rintro e w1 ⟨rfl, hb1⟩; have hb2 := hbel.trans ((hb0.trans (hb1.mono hb0.size)).mono hbel.size))
      go_roundw
      case rel => exact ⟨k + 1, _, by omega, by go_num, rfl, by first | exact NEXT.out | (rw [← NEXT.out]; simp only [Count.wrapEq]), hb2⟩
      case measure => simp [intOf]; omega
    · obtain rfl : k = len := by omega
      clear KB HI HF
      go_wp2
      go_ret
      exact ⟨by rw [← ES.out]; rfl, hbel⟩
end Go.Proofs.Ytalnfnkpemojhaa.UnitCheck

namespace Go.Proofs.Ytalnfnkpemojhaa.NWords
open Go.RowKit Go.Proofs.Ytalnfnkpemojhaa.Ident Trees Forms UnitCheck NSense

theorem sizes_bd {z : Nat → Int} : ∀ (n : Nat), (∀ i, i < n → 1 ≤ z i ∧ z i ≤ 10) → 0 ≤ sizes z n ∧ sizes z n ≤ 10 * n
  | 0, _ => ⟨Int.le_refl _, by simp [sizes]⟩
  | n + 1, h => by
    have h1 := sizes_bd n fun i hi => h i (by omega)
    have h2 := h n (by omega)
    rw [sizes]
    omega

/-- a unit that may be has few arrays, and small ones -/
theorem sized {u : UnitD} (h : unitFault u = 0) : u.vl ≤ 8 ∧ u.al ≤ 3 ∧ ∀ i, i < u.al → 1 ≤ u.az i ∧ u.az i ≤ 10 := by
  have hf : frontFault u = 0 := by
    unfold unitFault at h
    split at h
    · assumption
    · exact h
  unfold frontFault at hf
  split at hf
  · split at hf
    · split at hf
      · refine ⟨by omega, by omega, fun i hi => ?_⟩
        have := first_zero hf i hi
        unfold arrayFault at this
        split at this
        · split at this
          · assumption
          · cases this
        · cases this
      · contradiction
    · cases hf
  · cases hf

set_option maxHeartbeats 1000000 in
theorem words (u : UnitD) (w : World) (hu : UnitLies w u) (hv : u.vl ≤ 8) (ha : u.al ≤ 3) (hz : ∀ i, i < u.al → 1 ≤ u.az i ∧ u.az i ≤ 10) :
    Calls Try.prog 34 #[.agg #[.string u.name, .slice u.va u.vl u.vc, .slice u.aa u.al u.ac, .slice u.fa u.fl u.fc]] w fun e w' => e = .returned (.int .i64 (u.vl + sizes u.az u.al)) ∧ Below w.heap.size w w' := by
  have hA := hu.2.2.1
  clear hu
  obtain ⟨name, va, vl, vc, vs, aa, al, ac, an, az, fa, fl, fc, fs⟩ := u
  dsimp only at *
  have hb0 := below1 w (.cells #[.string name, .slice va vl vc, .slice aa al ac, .slice fa fl fc] 38)
  have HA : Hid _ := hA
  have HZ : Hid _ := hz
  have HB0 : Hid _ := hb0
  have hvI : (vl : Int) ≤ 8 := by omega
  have haI : (al : Int) ≤ 3 := by omega
  clear hA hz hb0 hv ha
  go_enter Try.func34, Try.ntmps34
  go_wp2
  go_loopw [3, 12] (fun n i wr => ∃ k : Nat, k ≤ al ∧ i = .int .i64 k ∧ n = .int .i64 (vl + sizes az k) ∧ Below w.heap.size w wr) (fun _ i _ => al - (intOf i).toNat)
  case atStart => exact ⟨0, Nat.zero_le _, rfl, by simp [sizes], HB0.out⟩
  case round =>
    obtain ⟨k, hk, rfl, rfl, hbel⟩ := hrel
    have hsz := sizes_bd (z := az) k (fun i hi => HZ.out i (by omega))
    have HB : Hid _ := hbel
    by_cases hkl : k < al
    · obtain ⟨⟨bl, off, ea, t0, t1⟩, _⟩ := ARow_below hbel HA.out k hkl
      obtain ⟨hy0, hy1⟩ := HZ.out k hkl
      have ES : Hid (sizes az (k + 1) = sizes az k + az k) := (rfl : sizes az (k + 1) = _)
      subst ea
      clear hbel HA HZ
      generalize sizes az k = S at hsz ES ⊢
      generalize az k = y at hy0 hy1 t1 ES
      obtain ⟨hs0, hs1⟩ := hsz
      have hkI : (k : Int) < al := by omega
      go_wp2
      go_roundw
      case rel => exact ⟨k + 1, by omega, by go_num, by rw [ES.out, Int.add_assoc], HB.out.alloc HB.out.size _⟩
      case measure => simp [intOf]; omega
    · obtain rfl : k = al := by omega
      clear HA HZ hbel
      obtain ⟨S, eS⟩ : ∃ S, S = sizes az k := ⟨_, rfl⟩
      rw [← eS] at hsz ⊢
      have ES : Hid (S = sizes az k) := eS
      obtain ⟨hs0, hs1⟩ := hsz
      clear eS
      go_wp2
      go_ret
      exact ⟨by rw [← ES.out]; rfl, HB.out⟩

set_option maxHeartbeats 1000000 in
theorem unitWords (u : UnitD) (w : World) (hu : UnitLies w u) (hv : u.vl ≤ 8) (ha : u.al ≤ 3) (hz : ∀ i, i < u.al → 1 ≤ u.az i ∧ u.az i ≤ 10) :
    Calls Try.prog 21 #[.agg #[.string u.name, .slice u.va u.vl u.vc, .slice u.aa u.al u.ac, .slice u.fa u.fl u.fc]] w fun e w' => e = .returned (.int .i64 (u.vl + sizes u.az u.al)) ∧ Below w.heap.size w w' := by
  have hA := hu.2.2.1
  clear hu
  obtain ⟨name, va, vl, vc, vs, aa, al, ac, an, az, fa, fl, fc, fs⟩ := u
  dsimp only at *
  have hb0 := below1 w (.cells #[.string name, .slice va vl vc, .slice aa al ac, .slice fa fl fc] 38)
  obtain ⟨w0, ew⟩ : ∃ w0, w0 = w.alloc (.cells #[.string name, .slice va vl vc, .slice aa al ac, .slice fa fl fc] 38) := ⟨_, rfl⟩
  have bx : ∀ W, Below w0.heap.size w0 W → W.cell? ⟨w.heap.size, 1, none⟩ = some (.slice va vl vc) ∧ W.cell? ⟨w.heap.size, 2, none⟩ = some (.slice aa al ac) := by
    rw [ew]
    exact fun W hb => ⟨(box4 hb).2.1, (box4 hb).2.2.1⟩
  have EW : Hid (w.alloc (.cells #[.string name, .slice va vl vc, .slice aa al ac, .slice fa fl fc] 38) = w0) := ew.symm
  rw [← ew] at hb0
  have BX : Hid _ := bx
  have HA : Hid _ := hA
  have HZ : Hid _ := hz
  have HB0 : Hid _ := hb0
  have hvI : (vl : Int) ≤ 8 := by omega
  have haI : (al : Int) ≤ 3 := by omega
  clear hA hz hb0 hv ha bx ew
  go_enter Try.func21, Try.ntmps21
  go_wp2
  rw [EW.out]
  go_loopw [3, 4] (fun n i wr => ∃ k : Nat, k ≤ al ∧ i = .int .i64 k ∧ n = .int .i64 (vl + sizes az k) ∧ Below w0.heap.size w0 wr) (fun _ i _ => al - (intOf i).toNat)
  case atStart => exact ⟨0, Nat.zero_le _, rfl, by simp [sizes], Below.refl _ _⟩
  case round =>
    obtain ⟨k, hk, rfl, rfl, hbel⟩ := hrel
    have hsz := sizes_bd (z := az) k (fun i hi => HZ.out i (by omega))
    obtain ⟨q1, q2⟩ := BX.out _ hbel
    have hup := HB0.out.trans (hbel.mono HB0.out.size)
    have HB : Hid _ := hbel
    by_cases hkl : k < al
    · obtain ⟨⟨bl, off, ea, t0, t1⟩, _⟩ := ARow_below hup HA.out k hkl
      obtain ⟨hy0, hy1⟩ := HZ.out k hkl
      have ES : Hid (sizes az (k + 1) = sizes az k + az k) := (rfl : sizes az (k + 1) = _)
      subst ea
      clear hbel HA HZ BX hup
      generalize sizes az k = S at hsz ES ⊢
      generalize az k = y at hy0 hy1 t1 ES
      obtain ⟨hs0, hs1⟩ := hsz
      have hkI : (k : Int) < al := by omega
      go_wp2
      go_roundw
      case rel => exact ⟨k + 1, by omega, by go_num, by rw [ES.out, Int.add_assoc], HB.out⟩
      case measure => simp [intOf]; omega
    · obtain rfl : k = al := by omega
      have HU : Hid _ := hup
      clear HA HZ hbel BX hup
      obtain ⟨S, eS⟩ : ∃ S, S = sizes az k := ⟨_, rfl⟩
      rw [← eS] at hsz ⊢
      have ES : Hid (S = sizes az k) := eS
      obtain ⟨hs0, hs1⟩ := hsz
      clear eS
      go_wp2
      go_ret
      exact ⟨by rw [← ES.out]; rfl, HU.out⟩
end Go.Proofs.Ytalnfnkpemojhaa.NWords

namespace Go.Proofs.Ytalnfnkpemojhaa.NCheckUnit
open Go.RowKit NPlace NPlain NUnits NLists Go.Proofs.Ytalnfnkpemojhaa.Ident Trees Forms NSense NScope NAsk NBoth NNamed NWords UnitCheck

/-- a unit that may be is small -/
theorem small {u : UnitD} (h : unitFault u = 0) : u.fl ≤ 8 ∧ ∀ k, k < u.fl → (u.fs k).pl ≤ 4 ∧ stmtsFault 12 (u.fs k).bl (u.fs k).body = 0 := by
  unfold unitFault at h
  split at h
  · rename_i h0
    split at h
    · rename_i h1
      refine ⟨?_, fun k hk => ?_⟩
      · unfold frontFault at h0
        split at h0
        · split at h0
          · rename_i h2
            exact h2.2.2
          · cases h0
        · cases h0
      · have h2 := first_zero h1 k hk
        refine ⟨?_, funcFault_zero h2⟩
        unfold funcFault at h2
        split at h2
        · split at h2
          · assumption
          · cases h2
        · cases h2
    · contradiction
  · contradiction

set_option maxHeartbeats 4000000 in
theorem checkUnit (w : World) (len pcap : Nat) (pa : Option Addr) (U : Nat → UnitD) (u : UnitD) (hl : len ≤ maxLen) (hU : URow w pa len U) (hu : UnitLies w u) (hz : unitFault u = 0) :
    Calls Try.prog 19 #[.slice pa len pcap, .agg #[.string u.name, .slice u.va u.vl u.vc, .slice u.aa u.al u.ac, .slice u.fa u.fl u.fc]] w fun e w' => e = .returned (.int .i64 (unitSense len U u)) ∧ Below w.heap.size w w' := by
  obtain ⟨hvl, hal, _⟩ := sized hz
  obtain ⟨hfl, hff⟩ := small hz
  obtain ⟨n, en⟩ : ∃ n, n = u.vl + u.al := ⟨_, rfl⟩
  have kv : ∀ W, Below w.heap.size w W → _ := fun W hb => vars W u.vl u.vc u.va u.vs hu.1.2.1 (texts (Strs_below hb hu.2.1)) (.string u.name) (.slice u.aa u.al u.ac) (.slice u.fa u.fl u.fc)
  have ka : ∀ W, Below w.heap.size w W → _ := fun W hb => arrays W u.al u.ac u.aa u.an hu.1.2.2.1 (pairs (ARow_below hb hu.2.2.1)) (.string u.name) (.slice u.va u.vl u.vc) (.slice u.fa u.fl u.fc)
  have kf : ∀ W, Below w.heap.size w W → _ := fun W hb => funcs W u.fl u.fc u.fa (funcNames u) hu.1.2.2.2 (heads (FRow_below hb hu.2.2.2)) (.string u.name) (.slice u.va u.vl u.vc) (.slice u.aa u.al u.ac)
  have kb : ∀ W ka kb ca cb, Tells W ka ca u.vl u.vs → Tells W kb cb u.al u.an → Calls Try.prog 35 #[.agg #[.int .i64 u.vl, .func (.func ka) #[] ca], .agg #[.int .i64 u.al, .func (.func kb) #[] cb]] W fun e w' => Below W.heap.size W w' ∧ ∃ caps, e = .returned (.agg #[.int .i64 (n : Nat), .func (.func 55) #[] caps]) ∧ Tells w' 55 caps n (both u.vl u.vs u.an) := by
    rw [en]
    exact fun W ka kb ca cb h h' => both_ W u.vl u.al ka kb ca cb u.vs u.an (by unfold maxLen; omega) h h'
  have kt : ∀ W k caps n z, n ≤ maxLen → Tells W k caps n z → _ := fun W k caps n z h t => twice W k n caps z h t
  have US : Hid (unitSense len U u = if twiceB (both u.vl u.vs u.an) n = true ∨ twiceB (funcNames u) u.fl = true then 6 else first (fun k => funcSense len U u (u.fs k)) u.fl) := by rw [en]; exact (rfl : unitSense len U u = _)
  have hn : n ≤ maxLen := by rw [en]; unfold maxLen; omega
  have hfm : u.fl ≤ maxLen := by unfold maxLen; omega
  obtain ⟨w0, ew⟩ : ∃ w0, w0 = w.alloc (.cells #[.string u.name, .slice u.va u.vl u.vc, .slice u.aa u.al u.ac, .slice u.fa u.fl u.fc] 38) := ⟨_, rfl⟩
  have hb0 : Below w.heap.size w w0 := by rw [ew]; exact below1 w _
  have bs : ∀ W, Below w0.heap.size w0 W → W.cell? ⟨w.heap.size, 0, none⟩ = some (.string u.name) ∧ W.cell? ⟨w.heap.size, 1, none⟩ = some (.slice u.va u.vl u.vc) ∧ W.cell? ⟨w.heap.size, 2, none⟩ = some (.slice u.aa u.al u.ac) ∧ W.cell? ⟨w.heap.size, 3, none⟩ = some (.slice u.fa u.fl u.fc) := by
    rw [ew]
    exact fun W hb => UnitCheck.box4 hb
  have EW : Hid (w.alloc (.cells #[.string u.name, .slice u.va u.vl u.vc, .slice u.aa u.al u.ac, .slice u.fa u.fl u.fc] 38) = w0) := ew.symm
  have KV : Hid _ := kv
  have KA : Hid _ := ka
  have KF : Hid _ := kf
  have KB : Hid _ := kb
  have KT : Hid _ := kt
  have UP : Hid (Below w.heap.size w w0) := hb0
  have BS : Hid _ := bs
  have HN : Hid (n ≤ maxLen) := hn
  have HFM : Hid (u.fl ≤ maxLen) := hfm
  have HVL : Hid (u.vl ≤ 8) := hvl
  have HFF : Hid _ := hff
  have HU : Hid (URow w pa len U) := hU
  have HU1 : Hid (UnitLies w u) := hu
  have HL : Hid (len ≤ maxLen) := hl
  have hfI : (u.fl : Int) ≤ 8 := by omega
  clear kv ka kf kb kt hb0 bs hn hfm hvl hal hff hU hu hl ew en hz hfl
  rcases Bool.eq_false_or_eq_true (twiceB (both u.vl u.vs u.an) n) with h1 | h1
  · have E : Hid (unitSense len U u = 6) := US.out.trans (if_pos (.inl h1))
    clear US HFF HU HU1
    go_enter Try.func19, Try.ntmps19
    go_wp2
    rw [EW.out]
    obtain ⟨q0, q1, q2, q3⟩ := BS.out _ (Below.refl w0.heap.size w0)
    go_region_law (first
      | (go_simp; go_at_call 36; refine (KV.out _ UP.out.drew).mono ?_; rintro e w9 ⟨hb9, b9, rfl, ht9⟩; have H9 : Hid (Below w0.heap.size w0 w9) := (Below.refl _ w0).drew.trans hb9; have T9 : Hid _ := ht9; clear hb9 ht9; clear q0 q1 q2 q3; obtain ⟨q0, q1, q2, q3⟩ := BS.out _ H9.out)
      | (go_simp; go_at_call 37; refine (KA.out _ (UP.out.trans (H9.out.mono UP.out.size))).mono ?_; rintro e w11 ⟨hb11, b11, rfl, ht11⟩; have T9b : Hid _ := T9.out.below hb11; have H11 : Hid (Below w0.heap.size w0 w11) := H9.out.trans (hb11.mono H9.out.size); have T11 : Hid _ := ht11; clear hb11 ht11; clear q0 q1 q2 q3; obtain ⟨q0, q1, q2, q3⟩ := BS.out _ H11.out)
      | (go_simp; go_at_call 35; refine (KB.out _ _ _ _ _ T9b.out T11.out).mono ?_; rintro e w12 ⟨hb12, caps, rfl, ht12⟩; have H12 : Hid (Below w0.heap.size w0 w12) := H11.out.trans (hb12.mono H11.out.size); have T12 : Hid _ := ht12; clear hb12 ht12; clear q0 q1 q2 q3; obtain ⟨q0, q1, q2, q3⟩ := BS.out _ H12.out)
      | (go_simp; go_at_call 17; refine (KT.out _ _ _ _ _ HN.out T12.out).mono ?_; rintro e w13 ⟨he, hb13⟩; rw [h1] at he; subst he; have H13 : Hid (Below w0.heap.size w0 w13) := H12.out.trans (hb13.mono H12.out.size); clear hb13; clear q0 q1 q2 q3; obtain ⟨q0, q1, q2, q3⟩ := BS.out _ H13.out)
      | fail)
    all_goals
      go_wp2
      go_ret
      exact ⟨by rw [E.out]; rfl, UP.out.trans (H13.out.mono UP.out.size)⟩
  rcases Bool.eq_false_or_eq_true (twiceB (funcNames u) u.fl) with h2 | h2
  · have E : Hid (unitSense len U u = 6) := US.out.trans (if_pos (.inr h2))
    clear US HFF HU HU1
    go_enter Try.func19, Try.ntmps19
    go_wp2
    rw [EW.out]
    go_region_held3 (fun W => W.cell? ⟨w.heap.size, 0, none⟩ = some (.string u.name) ∧ W.cell? ⟨w.heap.size, 1, none⟩ = some (.slice u.va u.vl u.vc) ∧ W.cell? ⟨w.heap.size, 2, none⟩ = some (.slice u.aa u.al u.ac) ∧ W.cell? ⟨w.heap.size, 3, none⟩ = some (.slice u.fa u.fl u.fc))
      (first | (with_reducible exact BS.out _ (Below.refl _ _).drew) | (with_reducible exact BS.out _ H17.out) | (with_reducible exact BS.out _ H16.out) | (with_reducible exact BS.out _ H13.out) | (with_reducible exact BS.out _ H12.out) | (with_reducible exact BS.out _ H11.out) | (with_reducible exact BS.out _ H9.out))
      (first
      | (go_at_call 36; refine (KV.out _ UP.out.drew).mono ?_; rintro e w9 ⟨hb9, b9, rfl, ht9⟩; have H9 : Hid (Below w0.heap.size w0 w9) := (Below.refl _ w0).drew.trans hb9; have T9 : Hid _ := ht9; clear hb9 ht9)
      | (go_at_call 37; refine (KA.out _ (UP.out.trans (H9.out.mono UP.out.size))).mono ?_; rintro e w11 ⟨hb11, b11, rfl, ht11⟩; have T9b : Hid _ := T9.out.below hb11; have H11 : Hid (Below w0.heap.size w0 w11) := H9.out.trans (hb11.mono H9.out.size); have T11 : Hid _ := ht11; clear hb11 ht11)
      | (go_at_call 35; refine (KB.out _ _ _ _ _ T9b.out T11.out).mono ?_; rintro e w12 ⟨hb12, caps, rfl, ht12⟩; have H12 : Hid (Below w0.heap.size w0 w12) := H11.out.trans (hb12.mono H11.out.size); have T12 : Hid _ := ht12; clear hb12 ht12)
      | (go_at_call 38; refine (KF.out _ (UP.out.trans (H13.out.mono UP.out.size))).mono ?_; rintro e w16 ⟨hb16, b16, rfl, ht16⟩; have H16 : Hid (Below w0.heap.size w0 w16) := H13.out.trans (hb16.mono H13.out.size); have T16 : Hid _ := ht16; clear hb16 ht16)
      | (go_at_call 17; refine (KT.out _ _ _ _ _ HFM.out T16.out).mono ?_; rintro e w17 ⟨he, hb17⟩; rw [h2] at he; subst he; have H17 : Hid (Below w0.heap.size w0 w17) := H16.out.trans (hb17.mono H16.out.size); clear hb17)
      | (go_at_call 17; refine (KT.out _ _ _ _ _ HN.out T12.out).mono ?_; rintro e w13 ⟨he, hb13⟩; rw [h1] at he; subst he; have H13 : Hid (Below w0.heap.size w0 w13) := H12.out.trans (hb13.mono H12.out.size); clear hb13)
      | fail)
    all_goals
      go_wp2
      go_ret
      exact ⟨by rw [E.out]; rfl, UP.out.trans (H17.out.mono UP.out.size)⟩
  have E : Hid (unitSense len U u = first (fun k => funcSense len U u (u.fs k)) u.fl) := US.out.trans (if_neg (by rw [h1, h2]; decide))
  obtain ⟨R, eR⟩ : ∃ R, R = unitSense len U u := ⟨_, rfl⟩
  rw [← eR] at E ⊢
  clear US eR
  obtain ⟨G, eG⟩ : ∃ G : Nat → Int, G = fun k => funcSense len U u (u.fs k) := ⟨_, rfl⟩
  rw [← eG] at E
  have EG : Hid (∀ k, G k = if twiceB (u.fs k).ps (u.fs k).pl = true then 6 else stmtsSense len U u (u.fs k) 12 (u.fs k).bl (u.fs k).body) := fun k => by rw [eG]; exact (rfl : funcSense len U u (u.fs k) = _)
  clear eG
  go_enter Try.func19, Try.ntmps19
  go_wp2
  rw [EW.out]
  go_region_held3 (fun W => W.cell? ⟨w.heap.size, 0, none⟩ = some (.string u.name) ∧ W.cell? ⟨w.heap.size, 1, none⟩ = some (.slice u.va u.vl u.vc) ∧ W.cell? ⟨w.heap.size, 2, none⟩ = some (.slice u.aa u.al u.ac) ∧ W.cell? ⟨w.heap.size, 3, none⟩ = some (.slice u.fa u.fl u.fc))
    (first | (with_reducible exact BS.out _ (Below.refl _ _).drew) | (with_reducible exact BS.out _ H17.out) | (with_reducible exact BS.out _ H16.out) | (with_reducible exact BS.out _ H13.out) | (with_reducible exact BS.out _ H12.out) | (with_reducible exact BS.out _ H11.out) | (with_reducible exact BS.out _ H9.out))
    (first
      | (go_at_call 36; refine (KV.out _ UP.out.drew).mono ?_; rintro e w9 ⟨hb9, b9, rfl, ht9⟩; have H9 : Hid (Below w0.heap.size w0 w9) := (Below.refl _ w0).drew.trans hb9; have T9 : Hid _ := ht9; clear hb9 ht9)
      | (go_at_call 37; refine (KA.out _ (UP.out.trans (H9.out.mono UP.out.size))).mono ?_; rintro e w11 ⟨hb11, b11, rfl, ht11⟩; have T9b : Hid _ := T9.out.below hb11; have H11 : Hid (Below w0.heap.size w0 w11) := H9.out.trans (hb11.mono H9.out.size); have T11 : Hid _ := ht11; clear hb11 ht11)
      | (go_at_call 35; refine (KB.out _ _ _ _ _ T9b.out T11.out).mono ?_; rintro e w12 ⟨hb12, caps, rfl, ht12⟩; have H12 : Hid (Below w0.heap.size w0 w12) := H11.out.trans (hb12.mono H11.out.size); have T12 : Hid _ := ht12; clear hb12 ht12)
      | (go_at_call 38; refine (KF.out _ (UP.out.trans (H13.out.mono UP.out.size))).mono ?_; rintro e w16 ⟨hb16, b16, rfl, ht16⟩; have H16 : Hid (Below w0.heap.size w0 w16) := H13.out.trans (hb16.mono H13.out.size); have T16 : Hid _ := ht16; clear hb16 ht16)
      | (go_at_call 17; refine (KT.out _ _ _ _ _ HFM.out T16.out).mono ?_; rintro e w17 ⟨he, hb17⟩; rw [h2] at he; subst he; have H17 : Hid (Below w0.heap.size w0 w17) := H16.out.trans (hb17.mono H16.out.size); clear hb17)
      | (go_at_call 17; refine (KT.out _ _ _ _ _ HN.out T12.out).mono ?_; rintro e w13 ⟨he, hb13⟩; rw [h1] at he; subst he; have H13 : Hid (Below w0.heap.size w0 w13) := H12.out.trans (hb13.mono H12.out.size); clear hb13)
      | fail)
  all_goals
    obtain ⟨q0, q1, q2, q3⟩ := BS.out _ H17.out
    clear h1 h2 T9 T9b T11 T12 T16
    go_wp2
    clear q0 q1 q2 q3
    go_loopw [22] (fun i wr => ∃ k : Nat, k ≤ u.fl ∧ i = .int .i64 k ∧ first G k = 0 ∧ Below w0.heap.size w0 wr) (fun i _ => u.fl - (intOf i).toNat)
    case atStart => exact ⟨0, Nat.zero_le _, rfl, rfl, H17.out⟩
    case round =>
      obtain ⟨k, hk, rfl, hg, hbel⟩ := hrel
      have HG : Hid (first G k = 0) := hg
      have HB : Hid _ := hbel
      have up := UP.out.trans (hbel.mono UP.out.size)
      have HUP : Hid _ := up
      clear hg
      by_cases hkl : k < u.fl
      · obtain ⟨⟨bl, off, ea, t0, t1, t2, t3⟩, hfn⟩ := FRow_below up HU1.out.2.2.2 k hkl
        obtain ⟨hpl, hsf⟩ := HFF.out k hkl
        have eg := EG.out k
        obtain ⟨f, ef⟩ : ∃ f, f = u.fs k := ⟨_, rfl⟩
        rw [← ef] at t0 t1 t2 t3 hfn hpl hsf eg
        clear ef HFF EG
        have hkI : (k : Int) < u.fl := by omega
        rw [ea] at *
        obtain ⟨wz, ez⟩ : ∃ wz, wz = wr.alloc (.cells #[.string f.name, .bool f.op, .slice f.pa f.pl f.pc, .slice f.ba f.bl f.bc] 52) := ⟨_, rfl⟩
        have hbz : Below wr.heap.size wr wz := by rw [ez]; exact below1 wr _
        have bz : ∀ W, Below wz.heap.size wz W → (W.cell? ⟨w.heap.size, 0, none⟩ = some (.string u.name) ∧ W.cell? ⟨w.heap.size, 1, none⟩ = some (.slice u.va u.vl u.vc) ∧ W.cell? ⟨w.heap.size, 2, none⟩ = some (.slice u.aa u.al u.ac) ∧ W.cell? ⟨w.heap.size, 3, none⟩ = some (.slice u.fa u.fl u.fc)) ∧ (W.cell? ⟨wr.heap.size, 0, none⟩ = some (.string f.name) ∧ W.cell? ⟨wr.heap.size, 1, none⟩ = some (.bool f.op) ∧ W.cell? ⟨wr.heap.size, 2, none⟩ = some (.slice f.pa f.pl f.pc) ∧ W.cell? ⟨wr.heap.size, 3, none⟩ = some (.slice f.ba f.bl f.bc)) := fun W hb => by
          refine ⟨BS.out W (HB.out.trans ((hbz.trans (hb.mono hbz.size)).mono HB.out.size)), ?_⟩
          rw [ez] at hb
          exact UnitCheck.box4 hb
        have HZ : Hid (Below w.heap.size w wz) := HUP.out.trans (hbz.mono HUP.out.size)
        have HZ0 : Hid (Below w0.heap.size w0 wz) := HB.out.trans (hbz.mono HB.out.size)
        have EZ : Hid (wr.alloc (.cells #[.string f.name, .bool f.op, .slice f.pa f.pl f.pc, .slice f.ba f.bl f.bc] 52) = wz) := ez.symm
        have BZ : Hid _ := bz
        have kp : ∀ W, Below wr.heap.size wr W → _ := fun W hb => params W f.pl f.pc f.pa f.ps hfn.2.1 (texts (Strs_below hb hfn.2.2.2.1)) (.string f.name) (.bool f.op) (.slice f.ba f.bl f.bc)
        have kso : ∀ W, Below wr.heap.size wr W → _ := fun W hb => NScopeOf.scopeOf W len pcap pa U u f HL.out (URow_below (HUP.out.trans (hb.mono HUP.out.size)) HU.out) (UnitLies_below (HUP.out.trans (hb.mono HUP.out.size)) HU1.out) (FuncLies_below hb hfn) (by have := HVL.out; unfold maxLen; omega)
        have kst : ∀ B la ar pu pp W, Scope B la ar pu pp len U u f → Below wr.heap.size wr W → Below B.heap.size B W → _ := fun B la ar pu pp W hS hb hb' => NStmts.stmts hS 12 W f.ba f.bl f.bc f.body hb' hfn.2.2.1 (SRow_below hb hfn.2.2.2.2) hsf
        generalize stmtsSense len U u f 12 f.bl f.body = r at kst eg
        have HPL : Hid (f.pl ≤ maxLen) := hfn.2.1
        have HBZ : Hid (Below wr.heap.size wr wz) := hbz
        have KP : Hid _ := kp
        have KSO : Hid _ := kso
        have KST : Hid _ := kst
        clear kp kso kst hfn hpl hsf hbz ez bz up hbel
        rcases Bool.eq_false_or_eq_true (twiceB f.ps f.pl) with h3 | h3
        · have er : R = 6 := by
            rw [E.out, first_stays (k := k + 1) (by omega) (by rw [first_succ HG.out, eg, if_pos h3]; decide), first_succ HG.out, eg, if_pos h3]
          have ER : Hid (R = 6) := er
          clear er
          clear E eg KSO KST
          go_wp2_with (first
            | (go_at_call 39; rw [EZ.out]; refine (KP.out _ HBZ.out).mono ?_; rintro e w27 ⟨hb27, b27, rfl, ht27⟩; have H27 : Hid (Below wz.heap.size wz w27) := hb27; have T27 : Hid _ := ht27; clear hb27 ht27)
            | (go_at_call 17; refine (KT.out _ _ _ _ _ HPL.out T27.out).mono ?_; rintro e w28 ⟨he, hb28⟩; rw [h3] at he; subst he; have H28 : Hid (Below wz.heap.size wz w28) := H27.out.trans (hb28.mono H27.out.size); clear hb28))
          go_ret
          exact ⟨by rw [ER.out]; rfl, HZ.out.trans (H28.out.mono HZ.out.size)⟩
        · have eg2 : G k = r := by rw [eg, if_neg (by rw [h3]; decide)]
          clear eg
          go_wp2_with (first
            | (go_at_call 39; rw [EZ.out]; refine (KP.out _ HBZ.out).mono ?_; rintro e w27 ⟨hb27, b27, rfl, ht27⟩; have H27 : Hid (Below wz.heap.size wz w27) := hb27; have T27 : Hid _ := ht27; clear hb27 ht27)
            | (go_at_call 17; refine (KT.out _ _ _ _ _ HPL.out T27.out).mono ?_; rintro e w28 ⟨he, hb28⟩; rw [h3] at he; subst he; have H28 : Hid (Below wz.heap.size wz w28) := H27.out.trans (hb28.mono H27.out.size); clear hb28))
          clear h3 T27 t0 t1 t2 t3
          go_region_held3 (fun W => (W.cell? ⟨w.heap.size, 0, none⟩ = some (.string u.name) ∧ W.cell? ⟨w.heap.size, 1, none⟩ = some (.slice u.va u.vl u.vc) ∧ W.cell? ⟨w.heap.size, 2, none⟩ = some (.slice u.aa u.al u.ac) ∧ W.cell? ⟨w.heap.size, 3, none⟩ = some (.slice u.fa u.fl u.fc)) ∧ (W.cell? ⟨wr.heap.size, 0, none⟩ = some (.string f.name) ∧ W.cell? ⟨wr.heap.size, 1, none⟩ = some (.bool f.op) ∧ W.cell? ⟨wr.heap.size, 2, none⟩ = some (.slice f.pa f.pl f.pc) ∧ W.cell? ⟨wr.heap.size, 3, none⟩ = some (.slice f.ba f.bl f.bc)))
            (first | (with_reducible exact BZ.out _ H28.out.drew) | (with_reducible exact BZ.out _ H35.out) | (with_reducible exact BZ.out _ H32.out))
            (first
            | (go_at_call 40; refine (KSO.out _ (HBZ.out.trans (H28.out.drew.mono HBZ.out.size))).mono ?_; rintro e w32 ⟨la, ar, ub, pb, rfl, hS, hb32⟩; have H32 : Hid (Below wz.heap.size wz w32) := H28.out.drew.trans (hb32.mono H28.out.size); have SC : Hid _ := hS; clear hb32 hS)
            | (go_at_call 41; refine (KST.out _ _ _ _ _ _ SC.out (HBZ.out.trans (H32.out.mono HBZ.out.size)) (Below.refl _ _)).mono ?_; rintro e w35 ⟨rfl, hb35⟩; have H35 : Hid (Below wz.heap.size wz w35) := H32.out.trans (hb35.mono H32.out.size); clear hb35)
            | fail)
          all_goals
            by_cases hr : r = 0
            · subst hr
              go_wp2
              go_roundw
              case rel => exact ⟨k + 1, by omega, by go_num, by rw [first_succ HG.out, eg2], HZ0.out.trans (H35.out.mono HZ0.out.size)⟩
              case measure => simp [intOf]; omega
            · have er : R = r := by
                rw [E.out, first_stays (k := k + 1) (by omega) (by rw [first_succ HG.out, eg2]; exact hr), first_succ HG.out, eg2]
              have ER : Hid (R = r) := er
              clear er
              have hr2 : (r == 0) = false := beq_eq_false_iff_ne.2 hr
              clear E eg2 hr
              go_wp2
              go_ret
              exact ⟨by rw [ER.out]; rfl, HZ.out.trans (H35.out.mono HZ.out.size)⟩
      · obtain rfl : k = u.fl := by omega
        clear HFF EG hbel
        go_wp2
        go_ret
        exact ⟨by rw [E.out, HG.out]; rfl, HUP.out⟩
end Go.Proofs.Ytalnfnkpemojhaa.NCheckUnit

namespace Go.Proofs.Ytalnfnkpemojhaa.NTooMany
open Go.RowKit NPlace NPlain NUnits NLists Go.Proofs.Ytalnfnkpemojhaa.Ident Trees Forms NSense NScope NAsk NWords

theorem words_bd {u : UnitD} (h : unitFault u = 0) : 0 ≤ wordsOf u ∧ wordsOf u ≤ 38 := by
  obtain ⟨h1, h2, h3⟩ := sized h
  have := sizes_bd u.al h3
  unfold wordsOf
  omega

theorem all_bd {U : Nat → UnitD} : ∀ n, (∀ i, i < n → unitFault (U i) = 0) → 0 ≤ allWords U n ∧ allWords U n ≤ 38 * n
  | 0, _ => ⟨Int.le_refl _, by simp [allWords]⟩
  | n + 1, h => by
    have h1 := all_bd n fun i hi => h i (by omega)
    have h2 := words_bd (h n (by omega))
    rw [allWords]
    omega

set_option maxHeartbeats 2000000 in
theorem tooMany (w : World) (len pcap : Nat) (pa : Option Addr) (U : Nat → UnitD) (h5 : len ≤ 5) (hU : URow w pa len U) (hz : ∀ i, i < len → unitFault (U i) = 0) :
    Calls Try.prog 18 #[.slice pa len pcap] w fun e w' => e = .returned (.bool (decide (250 < allWords U len))) ∧ Below w.heap.size w w' := by
  have kw : ∀ (k : Nat) (W : World), k < len → Below w.heap.size w W → Calls Try.prog 34 #[.agg #[.string (U k).name, .slice (U k).va (U k).vl (U k).vc, .slice (U k).aa (U k).al (U k).ac, .slice (U k).fa (U k).fl (U k).fc]] W fun e w' => e = .returned (.int .i64 (wordsOf (U k))) ∧ Below W.heap.size W w' := fun k W hk hb => words (U k) W (UnitLies_below hb (hU k hk).2) (sized (hz k hk)).1 (sized (hz k hk)).2.1 (sized (hz k hk)).2.2
  have hwb : ∀ k, k < len → 0 ≤ wordsOf (U k) ∧ wordsOf (U k) ≤ 38 := fun k hk => words_bd (hz k hk)
  have hab : ∀ k, k ≤ len → 0 ≤ allWords U k ∧ allWords U k ≤ 38 * k := fun k hk => all_bd k fun i hi => hz i (by omega)
  have KW : Hid _ := kw
  have HWB : Hid _ := hwb
  have HAB : Hid _ := hab
  have HU : Hid (URow w pa len U) := hU
  have hlI : (len : Int) ≤ 5 := by omega
  clear kw hwb hab hU hz
  go_enter Try.func18, Try.ntmps18
  go_wp2
  go_loopw [3, 8] (fun s i wr => ∃ k : Nat, k ≤ len ∧ i = .int .i64 k ∧ s = .int .i64 (allWords U k) ∧ Below w.heap.size w wr) (fun _ i _ => len - (intOf i).toNat)
  case atStart => exact ⟨0, Nat.zero_le _, rfl, rfl, Below.refl _ _⟩
  case round =>
    obtain ⟨k, hk, rfl, rfl, hbel⟩ := hrel
    obtain ⟨hs0, hs1⟩ := HAB.out k hk
    have HB : Hid _ := hbel
    by_cases hkl : k < len
    · obtain ⟨⟨bl, off, ea, t0, t1, t2, t3⟩, _⟩ := URow_below hbel HU.out k hkl
      obtain ⟨hy0, hy1⟩ := HWB.out k hkl
      have kw := fun W h => KW.out k W hkl h
      have ES : Hid (allWords U (k + 1) = allWords U k + wordsOf (U k)) := (rfl : allWords U (k + 1) = _)
      have hkI : (k : Int) < len := by omega
      have hk5 : (k : Int) ≤ 5 := by omega
      generalize allWords U k = S at hs0 hs1 ES ⊢
      generalize wordsOf (U k) = y at hy0 hy1 kw ES
      have hbz := hbel.alloc hbel.size (.cells #[.string (U k).name, .slice (U k).va (U k).vl (U k).vc, .slice (U k).aa (U k).al (U k).ac, .slice (U k).fa (U k).fl (U k).fc] 38)
      generalize U k = v at kw t0 t1 t2 t3 hbz
      subst ea
      have KW2 : Hid _ := kw
      have BZ : Hid _ := hbz
      have hS : S ≤ 190 := by omega
      clear hbel HU KW HWB HAB kw hbz hs1
      go_wp2_with (go_at_call 34; refine (KW2.out _ BZ.out).mono ?_; rintro e w1 ⟨rfl, hb1⟩; have HB1 : Hid _ := BZ.out.trans (hb1.mono BZ.out.size); clear hb1)
      go_roundw
      case rel => exact ⟨k + 1, by omega, by go_num, by rw [ES.out], HB1.out⟩
      case measure => simp [intOf]; omega
    · obtain rfl : k = len := by omega
      obtain ⟨S, eS⟩ : ∃ S, S = allWords U k := ⟨_, rfl⟩
      rw [← eS] at hs0 hs1 ⊢
      have ES : Hid (S = allWords U k) := eS
      clear HU KW HWB HAB hbel eS
      by_cases h : 250 < S
      · have E : Hid (decide (250 < allWords U k) = true) := by rw [← ES.out]; exact decide_eq_true h
        go_wp2
        go_ret
        exact ⟨by rw [E.out]; first | rfl | simp [h], HB.out⟩
      · have E : Hid (decide (250 < allWords U k) = false) := by rw [← ES.out]; exact decide_eq_false h
        have h' : S ≤ 250 := by omega
        go_wp2
        go_ret
        exact ⟨by rw [E.out]; first | rfl | simp [h'], HB.out⟩
end Go.Proofs.Ytalnfnkpemojhaa.NTooMany
