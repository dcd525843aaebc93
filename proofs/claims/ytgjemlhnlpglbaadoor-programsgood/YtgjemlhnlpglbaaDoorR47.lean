/-
  WHAT names.tooManyWords GIVES, of units that may be.
  Conditions: the units lie there.
-/
import Derived.Test.YtgjemlhnlpglbaaDoorR45
import Derived.Test.YtgjemlhnlpglbaaDoorR29
namespace Go.Proofs.YtgjemlhnlpglbaaDoor.NTooMany
open Go.RowKit NPlace NPlain NUnits NLists Go.Proofs.YtgjemlhnlpglbaaDoor.Ident Trees Forms NSense NScope NAsk NWords

theorem words_bd {u : UnitD} (h : unitFault u = 0) : 0 ≤ wordsOf u ∧ wordsOf u ≤ 38 := by
  obtain ⟨h1, h2, h3⟩ := sized h
  have := sizes_bd u.al h3
  unfold wordsOf
  omega

theorem all_bd {U : Nat → UnitD} : ∀ n, (∀ i, i < n → unitFault (U i) = 0) → 0 ≤ allWords U n ∧ allWords U n ≤ 38 * n
  | 0, _ => ⟨Int.le_refl _, by simp [allWords]⟩
  | n + 1, h => by
    have h1 := all_bd n fun i hi => h i (by omega)
    have h2 := words_bd (h n (by omega))
    rw [allWords]
    omega

set_option maxHeartbeats 2000000 in
theorem tooMany (w : World) (len pcap : Nat) (pa : Option Addr) (U : Nat → UnitD) (h5 : len ≤ 5) (hU : URow w pa len U) (hz : ∀ i, i < len → unitFault (U i) = 0) :
    Calls Tryd.prog 18 #[.slice pa len pcap] w fun e w' => e = .returned (.bool (decide (250 < allWords U len))) ∧ Below w.heap.size w w' := by
  have kw : ∀ (k : Nat) (W : World), k < len → Below w.heap.size w W → Calls Tryd.prog 39 #[.agg #[.string (U k).name, .slice (U k).va (U k).vl (U k).vc, .slice (U k).aa (U k).al (U k).ac, .slice (U k).fa (U k).fl (U k).fc]] W fun e w' => e = .returned (.int .i64 (wordsOf (U k))) ∧ Below W.heap.size W w' := fun k W hk hb => words (U k) W (UnitLies_below hb (hU k hk).2) (sized (hz k hk)).1 (sized (hz k hk)).2.1 (sized (hz k hk)).2.2
  have hwb : ∀ k, k < len → 0 ≤ wordsOf (U k) ∧ wordsOf (U k) ≤ 38 := fun k hk => words_bd (hz k hk)
  have hab : ∀ k, k ≤ len → 0 ≤ allWords U k ∧ allWords U k ≤ 38 * k := fun k hk => all_bd k fun i hi => hz i (by omega)
  have KW : Hid _ := kw
  have HWB : Hid _ := hwb
  have HAB : Hid _ := hab
  have HU : Hid (URow w pa len U) := hU
  have hlI : (len : Int) ≤ 5 := by omega
  clear kw hwb hab hU hz
  go_enter Tryd.func18, Tryd.ntmps18
  go_wp2
  go_loopw [3, 8] (fun s i wr => ∃ k : Nat, k ≤ len ∧ i = .int .i64 k ∧ s = .int .i64 (allWords U k) ∧ Below w.heap.size w wr) (fun _ i _ => len - (intOf i).toNat)
  case atStart => exact ⟨0, Nat.zero_le _, rfl, rfl, Below.refl _ _⟩
  case round =>
    obtain ⟨k, hk, rfl, rfl, hbel⟩ := hrel
    obtain ⟨hs0, hs1⟩ := HAB.out k hk
    have HB : Hid _ := hbel
    by_cases hkl : k < len
    · obtain ⟨⟨bl, off, ea, t0, t1, t2, t3⟩, _⟩ := URow_below hbel HU.out k hkl
      obtain ⟨hy0, hy1⟩ := HWB.out k hkl
      have kw := fun W h => KW.out k W hkl h
      have ES : Hid (allWords U (k + 1) = allWords U k + wordsOf (U k)) := (rfl : allWords U (k + 1) = _)
      have hkI : (k : Int) < len := by omega
      have hk5 : (k : Int) ≤ 5 := by omega
      generalize allWords U k = S at hs0 hs1 ES ⊢
      generalize wordsOf (U k) = y at hy0 hy1 kw ES
      have hbz := hbel.alloc hbel.size (.cells #[.string (U k).name, .slice (U k).va (U k).vl (U k).vc, .slice (U k).aa (U k).al (U k).ac, .slice (U k).fa (U k).fl (U k).fc] 41)
      generalize U k = v at kw t0 t1 t2 t3 hbz
      subst ea
      have KW2 : Hid _ := kw
      have BZ : Hid _ := hbz
      have hS : S ≤ 190 := by omega
      clear hbel HU KW HWB HAB kw hbz hs1
      go_wp2_with (go_at_call 39; refine (KW2.out _ BZ.out).mono ?_; rintro e w1 ⟨rfl, hb1⟩; have HB1 : Hid _ := BZ.out.trans (hb1.mono BZ.out.size); clear hb1)
      go_roundw
      case rel => exact ⟨k + 1, by omega, by go_num, by rw [ES.out], HB1.out⟩
      case measure => simp [intOf]; omega
    · obtain rfl : k = len := by omega
      obtain ⟨S, eS⟩ : ∃ S, S = allWords U k := ⟨_, rfl⟩
      rw [← eS] at hs0 hs1 ⊢
      have ES : Hid (S = allWords U k) := eS
      clear HU KW HWB HAB hbel eS
      by_cases h : 250 < S
      · have E : Hid (decide (250 < allWords U k) = true) := by rw [← ES.out]; exact decide_eq_true h
        go_wp2
        go_ret
        exact ⟨by rw [E.out]; first | rfl | simp [h], HB.out⟩
      · have E : Hid (decide (250 < allWords U k) = false) := by rw [← ES.out]; exact decide_eq_false h
        have h' : S ≤ 250 := by omega
        go_wp2
        go_ret
        exact ⟨by rw [E.out]; first | rfl | simp [h'], HB.out⟩
end Go.Proofs.YtgjemlhnlpglbaaDoor.NTooMany
