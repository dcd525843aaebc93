/-
  WHAT THE DOCUMENT's signAt GIVES: how long the longest sign is that a text begins with.
  Conditions: none.
-/
import Derived.Test.YtmmcpjmgindpkadCut
namespace Go.Proofs.Ytmmcpjmgindpkad.RefSign
open Go.RowKit Bytes Signs Longest SignLen TokenAt

def allL : List UInt8 := [123, 125, 40, 41, 91, 93, 44, 59, 46, 61, 43, 45, 42, 38, 124, 94, 60]

theorem ones_all : ones = allL.map fun c => [c] := rfl

theorem pre_one (c : UInt8) (l : List UInt8) : [c].isPrefixOf l = true ↔ 0 < l.length ∧ at_ l 0 = c.toNat := by
  cases l with
  | nil => simp [List.isPrefixOf]
  | cons a r =>
    simp only [List.isPrefixOf, Bool.and_true, beq_iff_eq, List.length_cons, at_, List.getD_cons_zero]
    constructor
    · rintro rfl; exact ⟨by omega, rfl⟩
    · rintro ⟨_, h⟩; exact (UInt8.toNat_inj.1 h).symm

theorem pre_two (c d : UInt8) (l : List UInt8) : [c, d].isPrefixOf l = true ↔ 2 ≤ l.length ∧ l.take 2 = [c, d] := by
  rw [List.isPrefixOf_iff_prefix, List.prefix_iff_eq_take]
  constructor
  · intro h
    have h2 := congrArg List.length h
    rw [List.length_take] at h2
    simp only [List.length_cons, List.length_nil] at h2
    exact ⟨by omega, h.symm⟩
  · rintro ⟨_, h⟩; exact h.symm

theorem len_two {l : List UInt8} (h2 : 2 ≤ l.length) (h : l.take 2 = [60, 60] ∨ l.take 2 = [62, 62] ∨ l.take 2 = [61, 61]) : signLen l = 2 := by
  unfold signLen
  rw [if_pos]
  rw [List.any_eq_true]
  rcases h with h | h | h
  · exact ⟨[60, 60], by decide, (pre_two _ _ _).2 ⟨h2, h⟩⟩
  · exact ⟨[62, 62], by decide, (pre_two _ _ _).2 ⟨h2, h⟩⟩
  · exact ⟨[61, 61], by decide, (pre_two _ _ _).2 ⟨h2, h⟩⟩

theorem not_two {l : List UInt8} (h : ¬ (2 ≤ l.length ∧ (l.take 2 = [60, 60] ∨ l.take 2 = [62, 62] ∨ l.take 2 = [61, 61]))) : ¬ (twos.any fun x => x.isPrefixOf l) = true := by
  rw [List.any_eq_true]
  rintro ⟨x, hx, hp⟩
  simp only [twos, List.mem_cons, List.not_mem_nil, or_false] at hx
  rcases hx with rfl | rfl | rfl
  · exact h ⟨((pre_two _ _ _).1 hp).1, .inl ((pre_two _ _ _).1 hp).2⟩
  · exact h ⟨((pre_two _ _ _).1 hp).1, .inr (.inl ((pre_two _ _ _).1 hp).2)⟩
  · exact h ⟨((pre_two _ _ _).1 hp).1, .inr (.inr ((pre_two _ _ _).1 hp).2)⟩

theorem len_one {l : List UInt8} (h : ¬ (twos.any fun x => x.isPrefixOf l) = true) {j : Nat} (hj : j < 17) (h0 : 0 < l.length) (he : at_ l 0 = at_ allL j) : signLen l = 1 := by
  unfold signLen
  rw [if_neg h, if_pos]
  rw [List.any_eq_true]
  have hj' : j < allL.length := hj
  refine ⟨[allL[j]], ?_, (pre_one _ _).2 ⟨h0, ?_⟩⟩
  · rw [ones_all]
    exact List.mem_map.2 ⟨allL[j], List.getElem_mem hj', rfl⟩
  · rw [he]
    unfold at_
    rw [List.getD_eq_getElem?_getD, List.getElem?_eq_getElem hj']
    rfl

theorem len_none {l : List UInt8} (h : ¬ (twos.any fun x => x.isPrefixOf l) = true) (he : ∀ j, j < 17 → ¬ (0 < l.length ∧ at_ l 0 = at_ allL j)) : signLen l = 0 := by
  unfold signLen
  rw [if_neg h, if_neg]
  rw [List.any_eq_true]
  rintro ⟨x, hx, hp⟩
  rw [ones_all] at hx
  obtain ⟨c, hc, rfl⟩ := List.mem_map.1 hx
  obtain ⟨j, hj, rfl⟩ := List.getElem_of_mem hc
  have h1 := (pre_one _ _).1 hp
  refine he j hj ⟨h1.1, ?_⟩
  rw [h1.2]
  unfold at_
  rw [List.getD_eq_getElem?_getD, List.getElem?_eq_getElem hj]
  rfl

set_option maxRecDepth 100000 in
set_option maxHeartbeats 2000000 in
theorem signAt (s : ByteArray) (hs : s.size ≤ maxLen) (w : World) : Calls Try.prog 19 #[.string s] w fun e w' => e = .returned (.int .i64 (signLen s.data.toList)) ∧ Below w.heap.size w w' := by
  have hlen : s.data.toList.length = s.size := by cases s; rfl
  have hm : s.size ≤ 9223372036854775807 := by unfold maxLen at hs; omega
  have hex : (s.extract 0 2).toList = s.data.toList.take 2 := by rw [ByteArray.toList_eq, extract_list]; rfl
  have e60 : (ByteArray.mk #[60, 60]).toList = [60, 60] := by rw [ByteArray.toList_eq]
  have e62 : (ByteArray.mk #[62, 62]).toList = [62, 62] := by rw [ByteArray.toList_eq]
  have e61 : (ByteArray.mk #[61, 61]).toList = [61, 61] := by rw [ByteArray.toList_eq]
  by_cases h2 : 2 ≤ s.size
  · have h2I : (2 : Int) ≤ s.size := by omega
    by_cases c60 : s.data.toList.take 2 = [60, 60]
    · have q60 : ((s.extract 0 2).toList == [60, 60]) = true := by rw [hex, c60]; rfl
      have HN : Hid (signLen s.data.toList = 2) := len_two (by omega) (.inl c60)
      clear c60 hex
      go_enter Try.func19, Try.ntmps19
      go_wp2
      go_ret
      exact ⟨by rw [HN.out]; rfl, Below.refl _ _⟩
    · have q60 : ((s.extract 0 2).toList == [60, 60]) = false := by rw [hex]; exact beq_eq_false_iff_ne.2 c60
      by_cases c62 : s.data.toList.take 2 = [62, 62]
      · have q62 : ((s.extract 0 2).toList == [62, 62]) = true := by rw [hex, c62]; rfl
        have HN : Hid (signLen s.data.toList = 2) := len_two (by omega) (.inr (.inl c62))
        clear c60 c62 hex
        go_enter Try.func19, Try.ntmps19
        go_wp2
        go_ret
        exact ⟨by rw [HN.out]; rfl, Below.refl _ _⟩
      · have q62 : ((s.extract 0 2).toList == [62, 62]) = false := by rw [hex]; exact beq_eq_false_iff_ne.2 c62
        by_cases c61 : s.data.toList.take 2 = [61, 61]
        · have q61 : ((s.extract 0 2).toList == [61, 61]) = true := by rw [hex, c61]; rfl
          have HN : Hid (signLen s.data.toList = 2) := len_two (by omega) (.inr (.inr c61))
          clear c60 c62 c61 hex
          go_enter Try.func19, Try.ntmps19
          go_wp2
          go_ret
          exact ⟨by rw [HN.out]; rfl, Below.refl _ _⟩
        · have q61 : ((s.extract 0 2).toList == [61, 61]) = false := by rw [hex]; exact beq_eq_false_iff_ne.2 c61
          have HT : Hid (¬ (twos.any fun x => x.isPrefixOf s.data.toList) = true) := not_two (fun h => h.2.elim c60 (fun h => h.elim c62 c61))
          clear c60 c62 c61 hex
          have h17 : (⟨#[123, 125, 40, 41, 91, 93, 44, 59, 46, 61, 43, 45, 42, 38, 124, 94, 60]⟩ : ByteArray).size = 17 := rfl
          go_enter Try.func19, Try.ntmps19
          go_wp2
          go_loopw [4] (fun p wr => ∃ j : Nat, j ≤ 17 ∧ p = .int .i64 j ∧ Hid (∀ t, t < j → ¬ (0 < s.data.toList.length ∧ at_ s.data.toList 0 = at_ allL t)) ∧ Below w.heap.size w wr) (fun p _ => 17 - (intOf p).toNat)
          case atStart => exact ⟨0, by omega, rfl, fun t ht => by omega, Below.refl _ _⟩
          case round =>
            obtain ⟨j, hj, rfl, HA, hbel⟩ := hrel
            have HB : Hid _ := hbel
            clear hbel
            by_cases hlt : j < 17
            · have hltI : (j : Int) < 17 := by omega
              obtain ⟨y, hy, hat⟩ : ∃ y : Int, (at_ allL j : Int) = y ∧ ∀ h : j < (⟨#[123, 125, 40, 41, 91, 93, 44, 59, 46, 61, 43, 45, 42, 38, 124, 94, 60]⟩ : ByteArray).size, (((⟨#[123, 125, 40, 41, 91, 93, 44, 59, 46, 61, 43, 45, 42, 38, 124, 94, 60]⟩ : ByteArray)[j]'h).toNat : Int) = y := ⟨_, rfl, fun h => by rw [at_in h]; rfl⟩
              by_cases h0 : 0 < s.size
              · have h0I : (0 : Int) < s.size := by omega
                obtain ⟨x, hx, hat0⟩ : ∃ x : Int, (at_ s.data.toList 0 : Int) = x ∧ ∀ h : 0 < s.size, ((s[0]'h).toNat : Int) = x := ⟨_, rfl, fun h => by rw [at_in h]⟩
                by_cases he : x = y
                · have heb : (x == y) = true := by rw [he]; simp
                  have HN : Hid (signLen s.data.toList = 1) := len_one HT.out hlt (by omega) (by omega)
                  clear he hx hy
                  go_wp2
                  go_quiet (fail)
                  go_wp2
                  go_ret
                  exact ⟨by rw [HN.out]; rfl, HB.out.os, HB.out.tape, HB.out.output, HB.out.size, HB.out.block⟩
                · have heb : (x == y) = false := beq_eq_false_iff_ne.2 he
                  have HX : Hid (∀ t, t < j + 1 → ¬ (0 < s.data.toList.length ∧ at_ s.data.toList 0 = at_ allL t)) := fun t ht hh => by
                    by_cases e : t < j
                    · exact HA.out t e hh
                    · obtain rfl : t = j := by omega
                      exact he (by have := hh.2; omega)
                  clear he hx hy
                  go_wp2
                  go_quiet (fail)
                  go_wp2
                  go_roundw
                  case rel => exact ⟨j + 1, by omega, by go_num, HX.out, HB.out.os, HB.out.tape, HB.out.output, HB.out.size, HB.out.block⟩
                  case measure => simp [intOf]; omega
              · have h0I : (s.size : Int) ≤ 0 := by omega
                have HX : Hid (∀ t, t < j + 1 → ¬ (0 < s.data.toList.length ∧ at_ s.data.toList 0 = at_ allL t)) := fun t ht hh => h0 (by have := hh.1; omega)
                clear hy
                go_wp2
                go_quiet (fail)
                go_wp2
                go_roundw
                case rel => exact ⟨j + 1, by omega, by go_num, HX.out, HB.out.os, HB.out.tape, HB.out.output, HB.out.size, HB.out.block⟩
                case measure => simp [intOf]; omega
            · obtain rfl : j = 17 := by omega
              have HN : Hid (signLen s.data.toList = 0) := len_none HT.out HA.out
              go_wp2
              go_ret
              exact ⟨by rw [HN.out]; rfl, HB.out⟩
  · have h2I : (s.size : Int) < 2 := by omega
    have HT : Hid (¬ (twos.any fun x => x.isPrefixOf s.data.toList) = true) := not_two (fun h => by have := h.1; omega)
    clear hex
    have h17 : (⟨#[123, 125, 40, 41, 91, 93, 44, 59, 46, 61, 43, 45, 42, 38, 124, 94, 60]⟩ : ByteArray).size = 17 := rfl
    go_enter Try.func19, Try.ntmps19
    go_wp2
    go_loopw [4] (fun p wr => ∃ j : Nat, j ≤ 17 ∧ p = .int .i64 j ∧ Hid (∀ t, t < j → ¬ (0 < s.data.toList.length ∧ at_ s.data.toList 0 = at_ allL t)) ∧ Below w.heap.size w wr) (fun p _ => 17 - (intOf p).toNat)
    case atStart => exact ⟨0, by omega, rfl, fun t ht => by omega, Below.refl _ _⟩
    case round =>
      obtain ⟨j, hj, rfl, HA, hbel⟩ := hrel
      have HB : Hid _ := hbel
      clear hbel
      by_cases hlt : j < 17
      · have hltI : (j : Int) < 17 := by omega
        obtain ⟨y, hy, hat⟩ : ∃ y : Int, (at_ allL j : Int) = y ∧ ∀ h : j < (⟨#[123, 125, 40, 41, 91, 93, 44, 59, 46, 61, 43, 45, 42, 38, 124, 94, 60]⟩ : ByteArray).size, (((⟨#[123, 125, 40, 41, 91, 93, 44, 59, 46, 61, 43, 45, 42, 38, 124, 94, 60]⟩ : ByteArray)[j]'h).toNat : Int) = y := ⟨_, rfl, fun h => by rw [at_in h]; rfl⟩
        by_cases h0 : 0 < s.size
        · have h0I : (0 : Int) < s.size := by omega
          obtain ⟨x, hx, hat0⟩ : ∃ x : Int, (at_ s.data.toList 0 : Int) = x ∧ ∀ h : 0 < s.size, ((s[0]'h).toNat : Int) = x := ⟨_, rfl, fun h => by rw [at_in h]⟩
          by_cases he : x = y
          · have heb : (x == y) = true := by rw [he]; simp
            have HN : Hid (signLen s.data.toList = 1) := len_one HT.out hlt (by omega) (by omega)
            clear he hx hy
            go_wp2
            go_quiet (fail)
            go_wp2
            go_ret
            exact ⟨by rw [HN.out]; rfl, HB.out.os, HB.out.tape, HB.out.output, HB.out.size, HB.out.block⟩
          · have heb : (x == y) = false := beq_eq_false_iff_ne.2 he
            have HX : Hid (∀ t, t < j + 1 → ¬ (0 < s.data.toList.length ∧ at_ s.data.toList 0 = at_ allL t)) := fun t ht hh => by
              by_cases e : t < j
              · exact HA.out t e hh
              · obtain rfl : t = j := by omega
                exact he (by have := hh.2; omega)
            clear he hx hy
            go_wp2
            go_quiet (fail)
            go_wp2
            go_roundw
            case rel => exact ⟨j + 1, by omega, by go_num, HX.out, HB.out.os, HB.out.tape, HB.out.output, HB.out.size, HB.out.block⟩
            case measure => simp [intOf]; omega
        · have h0I : (s.size : Int) ≤ 0 := by omega
          have HX : Hid (∀ t, t < j + 1 → ¬ (0 < s.data.toList.length ∧ at_ s.data.toList 0 = at_ allL t)) := fun t ht hh => h0 (by have := hh.1; omega)
          clear hy
          go_wp2
          go_quiet (fail)
          go_wp2
          go_roundw
          case rel => exact ⟨j + 1, by omega, by go_num, HX.out, HB.out.os, HB.out.tape, HB.out.output, HB.out.size, HB.out.block⟩
          case measure => simp [intOf]; omega
      · obtain rfl : j = 17 := by omega
        have HN : Hid (signLen s.data.toList = 0) := len_none HT.out HA.out
        go_wp2
        go_ret
        exact ⟨by rw [HN.out]; rfl, HB.out⟩
end Go.Proofs.Ytmmcpjmgindpkad.RefSign
