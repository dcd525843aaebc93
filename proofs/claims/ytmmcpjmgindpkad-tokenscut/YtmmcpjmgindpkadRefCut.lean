/-
  WHAT THE DOCUMENT's TokensOf GIVES: the tokens of a text, or what it is refused with: the same as token.Cut.
  Conditions: none.
-/
import Derived.Test.YtmmcpjmgindpkadRefSign
namespace Go.Proofs.Ytmmcpjmgindpkad.RefCut
open Go.RowKit Bytes Words Numbers Signs Longest SignLen TokenAt Go.Proofs.Ytmmcpjmgindpkad.Cut

theorem excl {t : List UInt8} (h : wordB t = true) : numB t = false := by
  cases hn : numB t
  · rfl
  · have h1 := ((numB_iff t).1 hn)
    have h2 := of_decide_eq_true (h1.2.1 0 (by have := h1.1; omega))
    have h3 := of_decide_eq_true (word_of h).2.1
    omega

theorem tok_runs {s : ByteArray} {i j : Nat} (h : i < j) (he : endOf s.data.toList i = j) : (numB (s.extract i j).data.toList = true → TokenAt.tok s.data.toList i = some (2, (s.extract i j).data.toList)) ∧ (numB (s.extract i j).data.toList = false → wordB (s.extract i j).data.toList = true → TokenAt.tok s.data.toList i = some (1, (s.extract i j).data.toList)) ∧ (numB (s.extract i j).data.toList = false → wordB (s.extract i j).data.toList = false → TokenAt.tok s.data.toList i = none) := by
  have hx : ∀ t, wordB t = true → numB t = true → False := fun t a b => by rw [excl a] at b; cases b
  unfold TokenAt.tok
  rw [he, if_pos h, extract_list]
  have hx := hx ((s.data.toList.drop i).take (j - i))
  revert hx
  cases wordB ((s.data.toList.drop i).take (j - i)) <;> cases numB ((s.data.toList.drop i).take (j - i)) <;> simp

theorem tok_signs {s : ByteArray} {i : Nat} (he : endOf s.data.toList i = i) : (signLen (s.data.toList.drop i) = 0 → TokenAt.tok s.data.toList i = none) ∧ (signLen (s.data.toList.drop i) ≠ 0 → TokenAt.tok s.data.toList i = some (3, (s.extract i (i + signLen (s.data.toList.drop i))).data.toList)) := by
  unfold TokenAt.tok
  rw [he, if_neg (by omega), extract_list, show i + signLen (s.data.toList.drop i) - i = signLen (s.data.toList.drop i) by omega]
  exact ⟨fun h => if_pos h, fun h => if_neg h⟩

/-- a row of one's own, which the walk leaves alone -/
structure Rowed (w : World) (base : Nat) (v : Value) (n : Nat) (xs : List Value) : Prop where
  out : w.ownsRow base 32 2 v n xs

theorem num2 (l : List UInt8) : (numOf l).2 = numB l := by
  unfold numOf
  cases numB l <;> rfl

theorem great (s : ByteArray) (h : 3000 < s.size) (w : World) : Calls Try.prog 9 #[.string s] w fun e w' => e = .returned (.tuple #[.slice none 0 0, .int .i64 1]) ∧ w' = w := by
  have hI : (3000 : Int) < s.size := by omega
  go_enter Try.func9, Try.ntmps9
  go_wp2
  go_ret2
  exact ⟨rfl, rfl⟩

set_option maxRecDepth 100000 in
set_option maxHeartbeats 8000000 in
theorem tokensOf (s : ByteArray) (hs : s.size ≤ 3000) (R : List (Int × List UInt8) × Int) (hR : cut s.data.toList (s.data.toList.length + 1) 0 [] = R) (w : World) :
    Calls Try.prog 9 #[.string s] w fun e w' => Below w.heap.size w w' ∧ ∃ v, e = .returned (.tuple #[v, .int .i64 R.2]) ∧ w'.ownsRow w.heap.size 32 2 v R.1.length (flat R.1) := by
  have hlen : s.data.toList.length = s.size := by cases s; rfl
  have hm : s.size ≤ maxLen := by unfold maxLen; omega
  have hsI : (s.size : Int) ≤ 3000 := by omega
  obtain ⟨i0, hi, hz0, hz1, hz2⟩ := info_parts info32
  rw [hlen] at hR
  have HR : Hid _ := hR
  clear hR
  go_enter Try.func9, Try.ntmps9
  go_wp2
  go_loopw [4, 5] (fun v p wr => ∃ (i f : Nat) (acc : List (Int × List UInt8)), i ≤ s.size ∧ p = .int .i64 i ∧ Hid (s.size < i + f ∧ cut s.data.toList f i acc = R ∧ acc.length ≤ i) ∧ wr.ownsRow w.heap.size 32 2 v acc.length (flat acc) ∧ Below w.heap.size w wr) (fun _ p _ => s.size - (intOf p).toNat)
  case atStart => exact ⟨0, s.size + 1, [], Nat.zero_le _, rfl, ⟨by omega, HR.out, Nat.zero_le _⟩, World.ownsRow_nil _ _ _ _, Below.refl _ _⟩
  case round =>
    revert wr
    intro w2 hrel
    obtain ⟨i, f, acc, hi', rfl, HF, hown, hbel⟩ := hrel
    have HL : Hid _ := hbel
    have HO : Rowed _ _ _ _ _ := ⟨hown⟩
    have hsz2 := hbel.size
    by_cases hlt : i < s.size
    · have hltI : (i : Int) < s.size := by omega
      obtain ⟨x, hx, hat⟩ : ∃ x : Int, (at_ s.data.toList i : Int) = x ∧ ∀ h : i < s.size, ((s[i]'h).toNat : Int) = x := ⟨_, rfl, fun h => by rw [at_in h]⟩
      obtain ⟨f', rfl⟩ : ∃ f', f = f' + 1 := ⟨f - 1, by have := HF.out.1; omega⟩
      by_cases hg : x = 32 ∨ x = 10
      · have hgb : gapB (at_ s.data.toList i) = true := decide_eq_true (by omega)
        have HN : Hid (cut s.data.toList f' (i + 1) acc = R) := (cut_gap (by omega) hgb).symm.trans HF.out.2.1
        rcases hg with rfl | rfl
        all_goals
          clear hgb hx hbel hown
          go_wp2
          go_roundw
          case rel => exact ⟨i + 1, f', acc, by omega, by go_num, ⟨by have := HF.out.1; omega, HN.out, by have := HF.out.2.2; omega⟩, HO.out, HL.out⟩
          case measure => simp [intOf]; omega
      · have hgb : gapB (at_ s.data.toList i) = false := decide_eq_false (by omega)
        have g0 : (x == 32) = false := beq_eq_false_iff_ne.2 (by omega)
        have g1 : (x == 10) = false := beq_eq_false_iff_ne.2 (by omega)
        have HGB : Hid _ := hgb
        clear hg hgb hx hbel hown
        go_wp2
        go_loopw [6] (fun p wr => ∃ j : Nat, i ≤ j ∧ j ≤ s.size ∧ p = .int .i64 j ∧ Hid (endOf s.data.toList j = endOf s.data.toList i) ∧ wr = w2) (fun p _ => s.size - (intOf p).toNat)
        case atStart => exact ⟨i, Nat.le_refl _, by omega, rfl, rfl, rfl⟩
        case round =>
          obtain ⟨j, hij, hj, rfl, HE, rfl⟩ := hrel
          by_cases hjl : j < s.size
          · have hjI : (j : Int) < s.size := by omega
            obtain ⟨y, hy, hat2⟩ : ∃ y : Int, (at_ s.data.toList j : Int) = y ∧ ∀ h : j < s.size, ((s[j]'h).toNat : Int) = y := ⟨_, rfl, fun h => by rw [at_in h]⟩
            have hy0 : 0 ≤ y := by omega
            have hy256 : y < 256 := by have := at_lt s.data.toList j; omega
            by_cases hL : 97 ≤ y ∧ y ≤ 122
            · have HN : Hid (endOf s.data.toList (j + 1) = endOf s.data.toList i) := (endOf_next (l := s.data.toList) (k := j) (by rw [show isLetter (at_ s.data.toList j) = true from decide_eq_true (by omega)]; rfl)).2.symm.trans HE.out
              have hL0 := hL.1
              have hL1 := hL.2
              clear hL hy
              go_wp2_with (go_at_call 16; refine (isIn_yes _ _ _ (by omega) (by omega) _).mono ?_; rintro e w' ⟨rfl, rfl⟩)
              go_roundw
              case rel => exact ⟨j + 1, by omega, by omega, by go_num, HN.out, by first | rfl | trivial⟩
              case measure => simp [intOf]; omega
            · by_cases hD : 48 ≤ y ∧ y ≤ 57
              · have HN : Hid (endOf s.data.toList (j + 1) = endOf s.data.toList i) := (endOf_next (l := s.data.toList) (k := j) (by rw [show isDigit (at_ s.data.toList j) = true from decide_eq_true (by omega), Bool.or_true])).2.symm.trans HE.out
                have hD0 := hD.1
                have hD1 := hD.2
                clear hL hD hy
                go_wp2_with (go_at_call 16; first | (refine (isIn_yes _ _ _ (by omega) (by omega) _).mono ?_; rintro e w' ⟨rfl, rfl⟩) | (refine (isIn_no _ _ _ (by omega) _).mono ?_; rintro e w' ⟨rfl, rfl⟩))
                go_roundw
                case rel => exact ⟨j + 1, by omega, by omega, by go_num, HN.out, by first | rfl | trivial⟩
                case measure => simp [intOf]; omega
              · have HEJ : Hid (endOf s.data.toList i = j) := HE.out.symm.trans (endOf_here (by rw [show isLetter (at_ s.data.toList j) = false from decide_eq_false (by omega), show isDigit (at_ s.data.toList j) = false from decide_eq_false (by omega)]; rfl))
                have HY : Hid ((y < 97 ∨ 122 < y) ∧ (y < 48 ∨ 57 < y)) := (by omega : (y < 97 ∨ 122 < y) ∧ (y < 48 ∨ 57 < y))
                clear hL hD hy
                by_cases hij2 : i < j
                · have hijI : (i : Int) < j := by omega
                  have hneI : ((j : Int) == i) = false := beq_eq_false_iff_ne.2 (by omega)
                  have hsl := TokenAt.sliced s i j (by omega) (by omega)
                  have hTs := extract_le s i j
                  have hTl : (s.extract i j).data.toList.length = j - i := by rw [extract_list, List.length_take, List.length_drop]; omega
                  have k7 : ∀ W, Calls Try.prog 7 #[.string (s.extract i j)] W fun e w' => (∃ n, e = .returned (.tuple #[.int .i64 n, .bool (numB (s.extract i j).data.toList)])) ∧ w' = W := fun W => (numberOf (s.extract i j) (by omega) W).mono fun e w' ⟨he, hw⟩ => ⟨⟨(numOf (s.extract i j).data.toList).1, he.trans (by rw [num2])⟩, hw⟩
                  have k20 : ∀ W, Calls Try.prog 20 #[.string (s.extract i j)] W fun e w' => e = .returned (.bool (wordB (s.extract i j).data.toList)) ∧ w' = W := fun W => wordMay (s.extract i j) (by omega) W
                  obtain ⟨t2, t1, t0⟩ := tok_runs (s := s) (i := i) (j := j) (by omega) HEJ.out
                  have HAC := HF.out.2.2
                  cases hn : numB (s.extract i j).data.toList
                  · rw [hn] at k7
                    cases hw : wordB (s.extract i j).data.toList
                    · rw [hw] at k20
                      have HN : Hid (R = ([], 4)) := HF.out.2.1.symm.trans (cut_bad (by omega) HGB.out (t0 hn hw))
                      clear hn hw t0 t1 t2 hTs hTl
                      go_wp2_with (first
                        | (go_at_call 16; refine (isIn_no _ _ _ (by have h1 := HY.out; omega) _).mono ?_; rintro e w' ⟨rfl, rfl⟩)
                        | (go_at_call 7; refine (k7 _).mono ?_; rintro e w' ⟨⟨n, rfl⟩, rfl⟩)
                        | (go_at_call 20; refine (k20 _).mono ?_; rintro e w' ⟨rfl, rfl⟩))
                      go_ret2
                      exact ⟨HL.out, .slice none 0 0, by rw [HN.out]; rfl, by rw [HN.out]; exact World.ownsRow_nil _ _ _ _⟩
                    · rw [hw] at k20
                      have HN : Hid (cut s.data.toList f' j (acc ++ [(1, (s.extract i j).data.toList)]) = R) := by
                        have h := (cut_tok (f := f') (acc := acc) (by omega) HGB.out (t1 hn hw)).symm.trans HF.out.2.1
                        simp only at h
                        rwa [hTl, show i + (j - i) = j by omega] at h
                      clear hn hw t0 t1 t2 hTs hTl
                      go_wp2_with (first
                        | (go_at_call 16; refine (isIn_no _ _ _ (by have h1 := HY.out; omega) _).mono ?_; rintro e w' ⟨rfl, rfl⟩)
                        | (go_at_call 7; refine (k7 _).mono ?_; rintro e w' ⟨⟨n, rfl⟩, rfl⟩)
                        | (go_at_call 20; refine (k20 _).mono ?_; rintro e w' ⟨rfl, rfl⟩)
                        | (at_builtin; refine wpList_append_own _ rfl _ _ 25 rfl w.heap.size 32 i0 (.agg #[.int .i64 0, .string ⟨#[]⟩]) 2 24 Try.underlying25 hi hz0 hz1 hz2 rfl (by decide) _ _ _ rfl (HO.out.alloc _) _ 1 1 [.int .i64 1, .string (s.extract i j)] rfl rfl two_news two_one (by unfold maxLen; omega) (by omega) (by simp; omega) ?_; intro v' w4 hown4 hgrow4 _; have HO4 : Rowed _ _ _ _ _ := ⟨hown4⟩; have HG4 : Hid _ := hgrow4; clear hown4 hgrow4))
                      go_roundw
                      case rel => exact ⟨j, f', acc ++ [(1, (s.extract i j).data.toList)], by omega, by go_num, ⟨by have h1 := HF.out.1; omega, HN.out, by simp; omega⟩, by rw [flat_snoc, List.length_append]; exact HO4.out, (HL.out.alloc hsz2 _).grown HG4.out (by simp; omega) (fun g hg => (HO.out.lt g hg).1)⟩
                      case measure => simp [intOf]; omega
                  · rw [hn] at k7
                    have HN : Hid (cut s.data.toList f' j (acc ++ [(2, (s.extract i j).data.toList)]) = R) := by
                      have h := (cut_tok (f := f') (acc := acc) (by omega) HGB.out (t2 hn)).symm.trans HF.out.2.1
                      simp only at h
                      rwa [hTl, show i + (j - i) = j by omega] at h
                    clear hn t0 t1 t2 hTs hTl
                    go_wp2_with (first
                      | (go_at_call 16; refine (isIn_no _ _ _ (by have h1 := HY.out; omega) _).mono ?_; rintro e w' ⟨rfl, rfl⟩)
                      | (go_at_call 7; refine (k7 _).mono ?_; rintro e w' ⟨⟨n, rfl⟩, rfl⟩)
                      | (at_builtin; refine wpList_append_own _ rfl _ _ 25 rfl w.heap.size 32 i0 (.agg #[.int .i64 0, .string ⟨#[]⟩]) 2 24 Try.underlying25 hi hz0 hz1 hz2 rfl (by decide) _ _ _ rfl (HO.out.alloc _) _ 1 1 [.int .i64 2, .string (s.extract i j)] rfl rfl two_news two_one (by unfold maxLen; omega) (by omega) (by simp; omega) ?_; intro v' w4 hown4 hgrow4 _; have HO4 : Rowed _ _ _ _ _ := ⟨hown4⟩; have HG4 : Hid _ := hgrow4; clear hown4 hgrow4))
                    go_roundw
                    case rel => exact ⟨j, f', acc ++ [(2, (s.extract i j).data.toList)], by omega, by go_num, ⟨by have h1 := HF.out.1; omega, HN.out, by simp; omega⟩, by rw [flat_snoc, List.length_append]; exact HO4.out, (HL.out.alloc hsz2 _).grown HG4.out (by simp; omega) (fun g hg => (HO.out.lt g hg).1)⟩
                    case measure => simp [intOf]; omega
                · obtain rfl : i = j := by omega
                  obtain rfl : x = y := (hat hlt).symm.trans (hat2 hlt)
                  clear hat2
                  have heqI : ((i : Int) == i) = true := by simp
                  have hsl0 := TokenAt.sliced s i i (by omega) (by omega)
                  have k7 : ∀ (t : ByteArray) W, t.size = 0 → Calls Try.prog 7 #[.string t] W fun e w' => (∃ n b, e = .returned (.tuple #[.int .i64 n, .bool b])) ∧ w' = W := fun t W h0 => (numberOf t (by omega) W).mono fun e w' ⟨he, hw⟩ => ⟨⟨_, _, he⟩, hw⟩
                  obtain ⟨n, en⟩ : ∃ n, signLen (s.data.toList.drop i) = n := ⟨_, rfl⟩
                  have hnl := signLen_le (s.data.toList.drop i)
                  obtain ⟨t0, t1⟩ := tok_signs (s := s) (i := i) HEJ.out
                  rw [en] at t0 t1 hnl
                  rw [List.length_drop] at hnl
                  have hnI : (n : Int) ≤ 2 := by omega
                  have k19 : ∀ W, Calls Try.prog 19 #[.string (s.extract i s.size)] W fun e w' => e = .returned (.int .i64 n) ∧ Below W.heap.size W w' := fun W => by
                    have h := RefSign.signAt (s.extract i s.size) (by have := extract_le s i s.size; omega) W
                    rwa [extract_all, en] at h
                  have HAC := HF.out.2.2
                  by_cases hn : n = 0
                  · subst hn
                    have HN : Hid (R = ([], 4)) := HF.out.2.1.symm.trans (cut_bad (by omega) HGB.out (t0 rfl))
                    clear t0 t1 en hnl hnI
                    go_wp2_with (first
                      | (go_at_call 16; refine (isIn_no _ _ _ (by have h1 := HY.out; omega) _).mono ?_; rintro e w' ⟨rfl, rfl⟩)
                      | (go_at_call 7; refine (k7 _ _ (by first | rfl | simp)).mono ?_; rintro e w' ⟨⟨q, b, rfl⟩, rfl⟩)
                      | (go_at_call 19; refine (k19 _).mono ?_; rintro e w3 ⟨rfl, hb3⟩; have HB3 : Hid _ := hb3; clear hb3))
                    go_ret2
                    exact ⟨HL.out.trans (HB3.out.mono hsz2), .slice none 0 0, by rw [HN.out]; rfl, by rw [HN.out]; exact World.ownsRow_nil _ _ _ _⟩
                  · have hn0 : ((n : Int) == 0) = false := beq_eq_false_iff_ne.2 (by omega)
                    have hsl : ∀ W, (Instr.slice 9 (.string s) (some (.int .i64 (i : Int))) (some (.int .i64 ((i : Int) + n))) none).run Try.prog W = .ok (.string (s.extract i (i + n))) W := fun W => by
                      have h := TokenAt.sliced s i (i + n) (by omega) (by omega) W
                      rwa [Int.natCast_add] at h
                    have hTl : (s.extract i (i + n)).data.toList.length = n := by rw [extract_list, List.length_take, List.length_drop]; omega
                    have HN : Hid (cut s.data.toList f' (i + n) (acc ++ [(3, (s.extract i (i + n)).data.toList)]) = R) := by
                      have h := (cut_tok (f := f') (acc := acc) (by omega) HGB.out (t1 hn)).symm.trans HF.out.2.1
                      simp only at h
                      rwa [hTl] at h
                    have HN2 : Hid (1 ≤ n ∧ i + n ≤ s.size) := (by omega : 1 ≤ n ∧ i + n ≤ s.size)
                    clear t0 t1 en hn hTl
                    go_wp2_with (first
                      | (go_at_call 16; refine (isIn_no _ _ _ (by have h1 := HY.out; omega) _).mono ?_; rintro e w' ⟨rfl, rfl⟩)
                      | (go_at_call 7; refine (k7 _ _ (by first | rfl | simp)).mono ?_; rintro e w' ⟨⟨q, b, rfl⟩, rfl⟩)
                      | (go_at_call 19; refine (k19 _).mono ?_; rintro e w3 ⟨rfl, hb3⟩; have hown3 := owns_below HO.out hb3; have hbel3 := HL.out.trans (hb3.mono hsz2); have hsz3 := hbel3.size; have HB3 : Hid _ := hbel3; clear hb3 hbel3)
                      | (at_builtin; refine wpList_append_own _ rfl _ _ 25 rfl w.heap.size 32 i0 (.agg #[.int .i64 0, .string ⟨#[]⟩]) 2 24 Try.underlying25 hi hz0 hz1 hz2 rfl (by decide) _ _ _ rfl (hown3.alloc _) _ 1 1 [.int .i64 3, .string (s.extract i (i + n))] rfl rfl two_news two_one (by unfold maxLen; omega) (by omega) (by simp; omega) ?_; intro v' w4 hown4 hgrow4 _; have HO4 : Rowed _ _ _ _ _ := ⟨hown4⟩; have HG4 : Hid _ := hgrow4; clear hown4 hgrow4))
                    go_roundw
                    case rel => exact ⟨i + n, f', acc ++ [(3, (s.extract i (i + n)).data.toList)], HN2.out.2, by go_num, ⟨by have h1 := HF.out.1; have h2 := HN2.out.1; omega, HN.out, by have h2 := HN2.out.1; simp; omega⟩, by rw [flat_snoc, List.length_append]; exact HO4.out, (HB3.out.alloc hsz3 _).grown HG4.out (by simp; omega) (fun g hg => (hown3.lt g hg).1)⟩
                    case measure => have h2 := HN2.out.1; simp [intOf]; omega
          · obtain rfl : j = s.size := by omega
            have HEJ : Hid (endOf s.data.toList i = s.size) := HE.out.symm.trans (by have := endOf_le s.data.toList s.size (by omega); omega)
            have HY : Hid True := trivial
            have hijI : (i : Int) < s.size := by omega
            have hneI : ((s.size : Int) == i) = false := beq_eq_false_iff_ne.2 (by omega)
            have hsl := TokenAt.sliced s i s.size (by omega) (by omega)
            have hTs := extract_le s i s.size
            have hTl : (s.extract i s.size).data.toList.length = s.size - i := by rw [extract_list, List.length_take, List.length_drop]; omega
            have k7 : ∀ W, Calls Try.prog 7 #[.string (s.extract i s.size)] W fun e w' => (∃ n, e = .returned (.tuple #[.int .i64 n, .bool (numB (s.extract i s.size).data.toList)])) ∧ w' = W := fun W => (numberOf (s.extract i s.size) (by omega) W).mono fun e w' ⟨he, hw⟩ => ⟨⟨(numOf (s.extract i s.size).data.toList).1, he.trans (by rw [num2])⟩, hw⟩
            have k20 : ∀ W, Calls Try.prog 20 #[.string (s.extract i s.size)] W fun e w' => e = .returned (.bool (wordB (s.extract i s.size).data.toList)) ∧ w' = W := fun W => wordMay (s.extract i s.size) (by omega) W
            obtain ⟨t2, t1, t0⟩ := tok_runs (s := s) (i := i) (j := s.size) (by omega) HEJ.out
            have HAC := HF.out.2.2
            cases hn : numB (s.extract i s.size).data.toList
            · rw [hn] at k7
              cases hw : wordB (s.extract i s.size).data.toList
              · rw [hw] at k20
                have HN : Hid (R = ([], 4)) := HF.out.2.1.symm.trans (cut_bad (by omega) HGB.out (t0 hn hw))
                clear hn hw t0 t1 t2 hTs hTl
                go_wp2_with (first
                  | (fail)
                  | (go_at_call 7; refine (k7 _).mono ?_; rintro e w' ⟨⟨n, rfl⟩, rfl⟩)
                  | (go_at_call 20; refine (k20 _).mono ?_; rintro e w' ⟨rfl, rfl⟩))
                go_ret2
                exact ⟨HL.out, .slice none 0 0, by rw [HN.out]; rfl, by rw [HN.out]; exact World.ownsRow_nil _ _ _ _⟩
              · rw [hw] at k20
                have HN : Hid (cut s.data.toList f' s.size (acc ++ [(1, (s.extract i s.size).data.toList)]) = R) := by
                  have h := (cut_tok (f := f') (acc := acc) (by omega) HGB.out (t1 hn hw)).symm.trans HF.out.2.1
                  simp only at h
                  rwa [hTl, show i + (s.size - i) = s.size by omega] at h
                clear hn hw t0 t1 t2 hTs hTl
                go_wp2_with (first
                  | (fail)
                  | (go_at_call 7; refine (k7 _).mono ?_; rintro e w' ⟨⟨n, rfl⟩, rfl⟩)
                  | (go_at_call 20; refine (k20 _).mono ?_; rintro e w' ⟨rfl, rfl⟩)
                  | (at_builtin; refine wpList_append_own _ rfl _ _ 25 rfl w.heap.size 32 i0 (.agg #[.int .i64 0, .string ⟨#[]⟩]) 2 24 Try.underlying25 hi hz0 hz1 hz2 rfl (by decide) _ _ _ rfl (HO.out.alloc _) _ 1 1 [.int .i64 1, .string (s.extract i s.size)] rfl rfl two_news two_one (by unfold maxLen; omega) (by omega) (by simp; omega) ?_; intro v' w4 hown4 hgrow4 _; have HO4 : Rowed _ _ _ _ _ := ⟨hown4⟩; have HG4 : Hid _ := hgrow4; clear hown4 hgrow4))
                go_roundw
                case rel => exact ⟨s.size, f', acc ++ [(1, (s.extract i s.size).data.toList)], by omega, by go_num, ⟨by have h1 := HF.out.1; omega, HN.out, by simp; omega⟩, by rw [flat_snoc, List.length_append]; exact HO4.out, (HL.out.alloc hsz2 _).grown HG4.out (by simp; omega) (fun g hg => (HO.out.lt g hg).1)⟩
                case measure => simp [intOf]; omega
            · rw [hn] at k7
              have HN : Hid (cut s.data.toList f' s.size (acc ++ [(2, (s.extract i s.size).data.toList)]) = R) := by
                have h := (cut_tok (f := f') (acc := acc) (by omega) HGB.out (t2 hn)).symm.trans HF.out.2.1
                simp only at h
                rwa [hTl, show i + (s.size - i) = s.size by omega] at h
              clear hn t0 t1 t2 hTs hTl
              go_wp2_with (first
                | (fail)
                | (go_at_call 7; refine (k7 _).mono ?_; rintro e w' ⟨⟨n, rfl⟩, rfl⟩)
                | (at_builtin; refine wpList_append_own _ rfl _ _ 25 rfl w.heap.size 32 i0 (.agg #[.int .i64 0, .string ⟨#[]⟩]) 2 24 Try.underlying25 hi hz0 hz1 hz2 rfl (by decide) _ _ _ rfl (HO.out.alloc _) _ 1 1 [.int .i64 2, .string (s.extract i s.size)] rfl rfl two_news two_one (by unfold maxLen; omega) (by omega) (by simp; omega) ?_; intro v' w4 hown4 hgrow4 _; have HO4 : Rowed _ _ _ _ _ := ⟨hown4⟩; have HG4 : Hid _ := hgrow4; clear hown4 hgrow4))
              go_roundw
              case rel => exact ⟨s.size, f', acc ++ [(2, (s.extract i s.size).data.toList)], by omega, by go_num, ⟨by have h1 := HF.out.1; omega, HN.out, by simp; omega⟩, by rw [flat_snoc, List.length_append]; exact HO4.out, (HL.out.alloc hsz2 _).grown HG4.out (by simp; omega) (fun g hg => (HO.out.lt g hg).1)⟩
              case measure => simp [intOf]; omega
    · obtain rfl : i = s.size := by omega
      have HN : Hid (R = (acc, 0)) := HF.out.2.1.symm.trans (cut_end (by omega))
      clear hown hbel
      go_wp2
      go_ret2
      exact ⟨HL.out, u4, by rw [HN.out]; rfl, by rw [HN.out]; exact HO.out⟩
end Go.Proofs.Ytmmcpjmgindpkad.RefCut
