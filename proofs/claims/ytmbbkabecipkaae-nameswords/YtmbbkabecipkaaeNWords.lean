/-
  WHAT names.Words AND THE DOCUMENT's UnitWords GIVE, of a unit that may be: how many words it has.
  Conditions: the unit's arrays lie there; it has no more of them, and no greater ones, than a unit may have.
-/
import Derived.Test.YtmbbkabecipkaaeRefUnit
namespace Go.Proofs.Ytmbbkabecipkaae.NWords
open Go.RowKit Go.Proofs.Ytmbbkabecipkaae.Ident Trees Forms UnitCheck

/-- the sum of the first n -/
def sizes (z : Nat → Int) : Nat → Int
  | 0 => 0
  | n + 1 => sizes z n + z n

theorem sizes_bd {z : Nat → Int} : ∀ (n : Nat), (∀ i, i < n → 1 ≤ z i ∧ z i ≤ 10) → 0 ≤ sizes z n ∧ sizes z n ≤ 10 * n
  | 0, _ => ⟨Int.le_refl _, by simp [sizes]⟩
  | n + 1, h => by
    have h1 := sizes_bd n fun i hi => h i (by omega)
    have h2 := h n (by omega)
    rw [sizes]
    omega

/-- a unit that may be has few arrays, and small ones -/
theorem sized {u : UnitD} (h : unitFault u = 0) : u.vl ≤ 8 ∧ u.al ≤ 3 ∧ ∀ i, i < u.al → 1 ≤ u.az i ∧ u.az i ≤ 10 := by
  have hf : frontFault u = 0 := by
    unfold unitFault at h
    split at h
    · assumption
    · exact h
  unfold frontFault at hf
  split at hf
  · split at hf
    · split at hf
      · refine ⟨by omega, by omega, fun i hi => ?_⟩
        have := first_zero hf i hi
        unfold arrayFault at this
        split at this
        · split at this
          · assumption
          · cases this
        · cases this
      · contradiction
    · cases hf
  · cases hf

set_option maxHeartbeats 1000000 in
theorem words (u : UnitD) (w : World) (hu : UnitLies w u) (hv : u.vl ≤ 8) (ha : u.al ≤ 3) (hz : ∀ i, i < u.al → 1 ≤ u.az i ∧ u.az i ≤ 10) :
    Calls Try.prog 11 #[.agg #[.string u.name, .slice u.va u.vl u.vc, .slice u.aa u.al u.ac, .slice u.fa u.fl u.fc]] w fun e w' => e = .returned (.int .i64 (u.vl + sizes u.az u.al)) ∧ Below w.heap.size w w' := by
  have hA := hu.2.2.1
  clear hu
  obtain ⟨name, va, vl, vc, vs, aa, al, ac, an, az, fa, fl, fc, fs⟩ := u
  dsimp only at *
  have hb0 := below1 w (.cells #[.string name, .slice va vl vc, .slice aa al ac, .slice fa fl fc] 29)
  have HA : Hid _ := hA
  have HZ : Hid _ := hz
  have HB0 : Hid _ := hb0
  have hvI : (vl : Int) ≤ 8 := by omega
  have haI : (al : Int) ≤ 3 := by omega
  clear hA hz hb0 hv ha
  go_enter Try.func11, Try.ntmps11
  go_wp2
  go_loopw [3, 12] (fun n i wr => ∃ k : Nat, k ≤ al ∧ i = .int .i64 k ∧ n = .int .i64 (vl + sizes az k) ∧ Below w.heap.size w wr) (fun _ i _ => al - (intOf i).toNat)
  case atStart => exact ⟨0, Nat.zero_le _, rfl, by simp [sizes], HB0.out⟩
  case round =>
    obtain ⟨k, hk, rfl, rfl, hbel⟩ := hrel
    have hsz := sizes_bd (z := az) k (fun i hi => HZ.out i (by omega))
    have HB : Hid _ := hbel
    by_cases hkl : k < al
    · obtain ⟨⟨bl, off, ea, t0, t1⟩, _⟩ := ARow_below hbel HA.out k hkl
      obtain ⟨hy0, hy1⟩ := HZ.out k hkl
      have ES : Hid (sizes az (k + 1) = sizes az k + az k) := (rfl : sizes az (k + 1) = _)
      subst ea
      clear hbel HA HZ
      generalize sizes az k = S at hsz ES ⊢
      generalize az k = y at hy0 hy1 t1 ES
      obtain ⟨hs0, hs1⟩ := hsz
      have hkI : (k : Int) < al := by omega
      go_wp2
      go_roundw
      case rel => exact ⟨k + 1, by omega, by go_num, by rw [ES.out, Int.add_assoc], HB.out.alloc HB.out.size _⟩
      case measure => simp [intOf]; omega
    · obtain rfl : k = al := by omega
      clear HA HZ hbel
      obtain ⟨S, eS⟩ : ∃ S, S = sizes az k := ⟨_, rfl⟩
      rw [← eS] at hsz ⊢
      have ES : Hid (S = sizes az k) := eS
      obtain ⟨hs0, hs1⟩ := hsz
      clear eS
      go_wp2
      go_ret
      exact ⟨by rw [← ES.out]; rfl, HB.out⟩

set_option maxHeartbeats 1000000 in
theorem unitWords (u : UnitD) (w : World) (hu : UnitLies w u) (hv : u.vl ≤ 8) (ha : u.al ≤ 3) (hz : ∀ i, i < u.al → 1 ≤ u.az i ∧ u.az i ≤ 10) :
    Calls Try.prog 12 #[.agg #[.string u.name, .slice u.va u.vl u.vc, .slice u.aa u.al u.ac, .slice u.fa u.fl u.fc]] w fun e w' => e = .returned (.int .i64 (u.vl + sizes u.az u.al)) ∧ Below w.heap.size w w' := by
  have hA := hu.2.2.1
  clear hu
  obtain ⟨name, va, vl, vc, vs, aa, al, ac, an, az, fa, fl, fc, fs⟩ := u
  dsimp only at *
  have hb0 := below1 w (.cells #[.string name, .slice va vl vc, .slice aa al ac, .slice fa fl fc] 29)
  obtain ⟨w0, ew⟩ : ∃ w0, w0 = w.alloc (.cells #[.string name, .slice va vl vc, .slice aa al ac, .slice fa fl fc] 29) := ⟨_, rfl⟩
  have bx : ∀ W, Below w0.heap.size w0 W → W.cell? ⟨w.heap.size, 1, none⟩ = some (.slice va vl vc) ∧ W.cell? ⟨w.heap.size, 2, none⟩ = some (.slice aa al ac) := by
    rw [ew]
    exact fun W hb => ⟨(box4 hb).2.1, (box4 hb).2.2.1⟩
  have EW : Hid (w.alloc (.cells #[.string name, .slice va vl vc, .slice aa al ac, .slice fa fl fc] 29) = w0) := ew.symm
  rw [← ew] at hb0
  have BX : Hid _ := bx
  have HA : Hid _ := hA
  have HZ : Hid _ := hz
  have HB0 : Hid _ := hb0
  have hvI : (vl : Int) ≤ 8 := by omega
  have haI : (al : Int) ≤ 3 := by omega
  clear hA hz hb0 hv ha bx ew
  go_enter Try.func12, Try.ntmps12
  go_wp2
  rw [EW.out]
  go_loopw [3, 4] (fun n i wr => ∃ k : Nat, k ≤ al ∧ i = .int .i64 k ∧ n = .int .i64 (vl + sizes az k) ∧ Below w0.heap.size w0 wr) (fun _ i _ => al - (intOf i).toNat)
  case atStart => exact ⟨0, Nat.zero_le _, rfl, by simp [sizes], Below.refl _ _⟩
  case round =>
    obtain ⟨k, hk, rfl, rfl, hbel⟩ := hrel
    have hsz := sizes_bd (z := az) k (fun i hi => HZ.out i (by omega))
    obtain ⟨q1, q2⟩ := BX.out _ hbel
    have hup := HB0.out.trans (hbel.mono HB0.out.size)
    have HB : Hid _ := hbel
    by_cases hkl : k < al
    · obtain ⟨⟨bl, off, ea, t0, t1⟩, _⟩ := ARow_below hup HA.out k hkl
      obtain ⟨hy0, hy1⟩ := HZ.out k hkl
      have ES : Hid (sizes az (k + 1) = sizes az k + az k) := (rfl : sizes az (k + 1) = _)
      subst ea
      clear hbel HA HZ BX hup
      generalize sizes az k = S at hsz ES ⊢
      generalize az k = y at hy0 hy1 t1 ES
      obtain ⟨hs0, hs1⟩ := hsz
      have hkI : (k : Int) < al := by omega
      go_wp2
      go_roundw
      case rel => exact ⟨k + 1, by omega, by go_num, by rw [ES.out, Int.add_assoc], HB.out⟩
      case measure => simp [intOf]; omega
    · obtain rfl : k = al := by omega
      have HU : Hid _ := hup
      clear HA HZ hbel BX hup
      obtain ⟨S, eS⟩ : ∃ S, S = sizes az k := ⟨_, rfl⟩
      rw [← eS] at hsz ⊢
      have ES : Hid (S = sizes az k) := eS
      obtain ⟨hs0, hs1⟩ := hsz
      clear eS
      go_wp2
      go_ret
      exact ⟨by rw [← ES.out]; rfl, HU.out⟩
end Go.Proofs.Ytmbbkabecipkaae.NWords
