/-
  WHAT token.gap, wordOrDigit AND tokenAt GIVE, and strings.Clone: the token that begins at a place of a text.
  Conditions: each contract's own hypotheses.
-/
import Derived.Test.YtmmcpjmgindpkadSignLen
import Derived.Laws.DeepStrings4
namespace Go.Proofs.Ytmmcpjmgindpkad.TokenAt
open Go.RowKit Bytes Words Numbers Signs Longest SignLen

/-- P5.2: the token that begins at a place -/
def tok (l : List UInt8) (i : Nat) : Option (Int × List UInt8) :=
  if i < endOf l i then
    if wordB ((l.drop i).take (endOf l i - i)) = true then some (1, (l.drop i).take (endOf l i - i))
    else if numB ((l.drop i).take (endOf l i - i)) = true then some (2, (l.drop i).take (endOf l i - i)) else none
  else if signLen (l.drop i) = 0 then none else some (3, (l.drop i).take (signLen (l.drop i)))

theorem gap_yes (n : Int) (h : n = 32 ∨ n = 10) (w : World) : Calls Try.prog 17 #[.int .u8 n] w fun e w' => e = .returned (.bool true) ∧ w' = w := by
  rcases h with rfl | rfl
  all_goals
    go_enter Try.func17, Try.ntmps17
    go_wp2
    go_ret
    exact ⟨rfl, rfl⟩

theorem gap_no (n : Int) (h : n ≠ 32) (h' : n ≠ 10) (w : World) : Calls Try.prog 17 #[.int .u8 n] w fun e w' => e = .returned (.bool false) ∧ w' = w := by
  have c0 : (n == 32) = false := beq_eq_false_iff_ne.2 h
  have c1 : (n == 10) = false := beq_eq_false_iff_ne.2 h'
  clear h h'
  go_enter Try.func17, Try.ntmps17
  go_wp2
  go_ret
  exact ⟨rfl, rfl⟩

theorem clone (s : ByteArray) (hs : s.size ≤ 3000) (w : World) : Calls Try.prog 32 #[.string s] w fun e w' => e = .returned (.string s) ∧ Below w.heap.size w w' := by
  have K : Hid (∀ W, Calls Try.prog 37 #[.string s] W fun e w' => e = .returned (.string s) ∧ Below W.heap.size W w') := fun W => Try.stringslite_Clone s W (by omega)
  go_enter Try.func32, Try.ntmps32
  go_wp2_with (go_at_call 37; refine (K.out _).mono ?_; rintro e w' ⟨rfl, hb⟩)
  go_ret
  exact ⟨rfl, hb⟩

theorem past1 {W w3 : World} {o : Obj} (hb : Below (W.alloc o).heap.size (W.alloc o) w3) : Below W.heap.size W w3 := by
  have h0 : Below W.heap.size W (W.alloc o) := (Below.refl _ _).alloc (Nat.le_refl _) _
  exact h0.trans (hb.mono h0.size)

theorem still2 {w w3 : World} {v0 v1 : Value} {t : TypeId} (hb : Below (w.alloc (.cells #[v0, v1] t)).heap.size (w.alloc (.cells #[v0, v1] t)) w3) : w3.cell? ⟨w.heap.size, 0, none⟩ = some v0 ∧ w3.cell? ⟨w.heap.size, 1, none⟩ = some v1 ∧ w3.frozen? ⟨w.heap.size, 0, none⟩ = false ∧ w3.frozen? ⟨w.heap.size, 1, none⟩ = false := by
  have hlt : w.heap.size < (w.alloc (.cells #[v0, v1] t)).heap.size := by rw [World.size_alloc]; omega
  have h := (hb.block _ hlt).trans (heap_alloc_new w _)
  exact ⟨cell_of_heap h rfl, cell_of_heap h rfl, frozen_of_row w3 _ 0 _ t h, frozen_of_row w3 _ 1 _ t h⟩

theorem below_set2 {w w3 : World} {o : Obj} {u0 u1 : Value} (hb : Below (w.alloc o).heap.size (w.alloc o) w3) : Below w.heap.size w ((w3.setCell ⟨w.heap.size, 0, none⟩ u0).setCell ⟨w.heap.size, 1, none⟩ u1) := by
  have h0 : Below w.heap.size w (w.alloc o) := (Below.refl _ _).alloc (Nat.le_refl _) _
  have h1 := h0.trans (hb.mono h0.size)
  exact (h1.setCell (p := ⟨w.heap.size, 0, none⟩) (Nat.le_refl _) _).setCell (p := ⟨w.heap.size, 1, none⟩) (Nat.le_refl _) _

set_option maxRecDepth 100000 in
set_option maxHeartbeats 1600000 in
theorem wordOrDigit (s : ByteArray) (hs : s.size ≤ 3000) (w : World) : Calls Try.prog 26 #[.string s] w fun e w' => e = .returned (.tuple #[.agg #[.int .i64 (if wordB s.data.toList = true then 1 else 2), .string s], .bool (wordB s.data.toList || numB s.data.toList)]) ∧ Below w.heap.size w w' := by
  have hm : s.size ≤ maxLen := by unfold maxLen; omega
  have k32 : ∀ W, Calls Try.prog 32 #[.string s] W fun e w' => e = .returned (.string s) ∧ Below W.heap.size W w' := fun W => clone s hs W
  have k31 : ∀ W, Calls Try.prog 31 #[.string s] W fun e w' => e = .returned (.bool (wordB s.data.toList)) ∧ w' = W.alloc (.cells #[.string s] 9) := fun W => word s hm W
  have k6 : ∀ W, Calls Try.prog 6 #[.string s] W fun e w' => (∃ n, e = .returned (.tuple #[.int .i64 n, .bool (numB s.data.toList)])) ∧ w' = W.alloc (.cells #[.string s] 9) := fun W => (number s hm W).mono fun e w' ⟨he, hw⟩ => ⟨⟨(numOf s.data.toList).1, he.trans (by
    congr
    unfold numOf
    cases numB s.data.toList <;> rfl)⟩, hw⟩
  cases hW : wordB s.data.toList
  · rw [hW] at k31
    obtain ⟨b, eb⟩ : ∃ b, numB s.data.toList = b := ⟨_, rfl⟩
    rw [eb] at k6 ⊢
    clear eb hW
    go_enter Try.func26, Try.ntmps26
    go_wp2_with (first
      | (go_at_call 31; refine (k31 _).mono ?_; rintro e w' ⟨rfl, rfl⟩)
      | (go_at_call 6; refine (k6 _).mono ?_; rintro e w' ⟨⟨n, rfl⟩, rfl⟩)
      | (go_at_call 32; refine (k32 _).mono ?_; rintro e w3 ⟨rfl, hb⟩; have hb' := past1 (past1 hb); obtain ⟨d0, d1, z0, z1⟩ := still2 hb'; have HB : Hid _ := hb'; clear hb hb'))
    refine bodyPost_ret (v := .tuple #[.agg #[.int .i64 2, .string s], .bool b]) (by simp [results, Try.results26, go_sem, *]) rfl ?_
    exact ⟨rfl, below_set2 HB.out⟩
  · rw [hW] at k31
    clear hW
    go_enter Try.func26, Try.ntmps26
    go_wp2_with (first
      | (go_at_call 31; refine (k31 _).mono ?_; rintro e w' ⟨rfl, rfl⟩)
      | (go_at_call 32; refine (k32 _).mono ?_; rintro e w3 ⟨rfl, hb⟩; have hb' := past1 hb; obtain ⟨d0, d1, z0, z1⟩ := still2 hb'; have HB : Hid _ := hb'; clear hb hb'))
    refine bodyPost_ret (v := .tuple #[.agg #[.int .i64 1, .string s], .bool true]) (by simp [results, Try.results26, go_sem, *]) rfl ?_
    exact ⟨rfl, below_set2 HB.out⟩

theorem extract_list (s : ByteArray) (a b : Nat) : (s.extract a b).data.toList = (s.data.toList.drop a).take (b - a) := by
  rw [ByteArray.data_extract, Array.toList_extract]

theorem sliced (s : ByteArray) (a b : Nat) (h : a ≤ b) (h' : b ≤ s.size) (W : World) : (Instr.slice 9 (.string s) (some (.int .i64 (a : Int))) (some (.int .i64 (b : Int))) none).run Try.prog W = .ok (.string (s.extract a b)) W := by
  rw [run_slice_string_if W 9 s .i64 .i64 a b Try.underlying9, if_pos (by omega), if_pos (by omega)]
  rfl

theorem extract_all (s : ByteArray) (a : Nat) : (s.extract a s.size).data.toList = s.data.toList.drop a := by
  rw [extract_list]
  have hlen : s.data.toList.length = s.size := by cases s; rfl
  exact List.take_of_length_le (by rw [List.length_drop]; omega)

theorem extract_le (s : ByteArray) (a b : Nat) : (s.extract a b).size ≤ s.size := by
  rw [ByteArray.size_extract]
  omega

/-- a token, or none -/
structure Tok (l : List UInt8) (i : Nat) (k : Int) (t : ByteArray) (ok : Bool) : Prop where
  yes : ok = true → tok l i = some (k, t.data.toList)
  no : ok = false → tok l i = none

theorem tok_run {s : ByteArray} {i : Nat} (h : i < endOf s.data.toList i) : Tok s.data.toList i (if wordB (s.extract i (endOf s.data.toList i)).data.toList = true then 1 else 2) (s.extract i (endOf s.data.toList i)) (wordB (s.extract i (endOf s.data.toList i)).data.toList || numB (s.extract i (endOf s.data.toList i)).data.toList) := by
  suffices hh : ((wordB (s.extract i (endOf s.data.toList i)).data.toList || numB (s.extract i (endOf s.data.toList i)).data.toList) = true → tok s.data.toList i = some (if wordB (s.extract i (endOf s.data.toList i)).data.toList = true then 1 else 2, (s.extract i (endOf s.data.toList i)).data.toList)) ∧ ((wordB (s.extract i (endOf s.data.toList i)).data.toList || numB (s.extract i (endOf s.data.toList i)).data.toList) = false → tok s.data.toList i = none) from ⟨hh.1, hh.2⟩
  unfold tok
  rw [extract_list, if_pos h]
  cases wordB ((s.data.toList.drop i).take (endOf s.data.toList i - i)) <;> cases numB ((s.data.toList.drop i).take (endOf s.data.toList i - i)) <;> simp

theorem tok_sign {s : ByteArray} {i : Nat} (h : ¬ i < endOf s.data.toList i) (hn : signLen (s.data.toList.drop i) ≠ 0) : Tok s.data.toList i 3 ⟨((s.data.toList.drop i).take (signLen (s.data.toList.drop i))).toArray⟩ true := by
  refine ⟨fun _ => ?_, fun h => (by cases h)⟩
  unfold tok
  rw [if_neg h, if_neg hn]

theorem tok_none {s : ByteArray} {i : Nat} (h : ¬ i < endOf s.data.toList i) (hn : signLen (s.data.toList.drop i) = 0) (k : Int) (t : ByteArray) : Tok s.data.toList i k t false := by
  refine ⟨fun h => (by cases h), fun _ => ?_⟩
  unfold tok
  rw [if_neg h, if_pos hn]

set_option maxRecDepth 100000 in
set_option maxHeartbeats 1600000 in
theorem tokenAt (s : ByteArray) (hs : s.size ≤ 3000) (i b0 : Nat) (hi : i < s.size) (w : World) (hc : w.cell? ⟨b0, 0, none⟩ = some (.string s)) :
    Calls Try.prog 18 #[.string s, .func (.func 24) #[] #[.pointer (some ⟨b0, 0, none⟩)], .int .i64 i] w fun e w' => Below w.heap.size w w' ∧ ∃ k t ok, e = .returned (.tuple #[.agg #[.int .i64 k, .string t], .bool ok]) ∧ Hid (Tok s.data.toList i k t ok) := by
  have hm : s.size ≤ maxLen := by unfold maxLen; omega
  have hlen : s.data.toList.length = s.size := by cases s; rfl
  have hb0 := World.block_lt_of_cell? w _ hc
  have k25 : ∀ o, Calls Try.prog 25 #[.func (.func 24) #[] #[.pointer (some ⟨b0, 0, none⟩)], .int .i64 i] (w.alloc o) fun e w' => e = .returned (.int .i64 (endOf s.data.toList i)) ∧ w' = w.alloc o := fun o => runEnd s hm i b0 (by omega) _ ((World.cell?_alloc_past o _ _ hb0).trans hc)
  have hle := endOf_le s.data.toList i (by omega)
  obtain ⟨k, ek⟩ : ∃ k, endOf s.data.toList i = k := ⟨_, rfl⟩
  rw [ek, hlen] at hle
  rw [ek] at k25
  have hiI : (i : Int) < s.size := by omega
  have hkI : (k : Int) ≤ s.size := by omega
  have hsI : (s.size : Int) ≤ 3000 := by omega
  by_cases hlt : i < k
  · have hltI : (i : Int) < k := by omega
    have ht := tok_run (s := s) (i := i) (by omega)
    rw [ek] at ht
    have k26 : ∀ W, Calls Try.prog 26 #[.string (s.extract i k)] W fun e w' => e = .returned (.tuple #[.agg #[.int .i64 (if wordB (s.extract i k).data.toList = true then 1 else 2), .string (s.extract i k)], .bool (wordB (s.extract i k).data.toList || numB (s.extract i k).data.toList)]) ∧ Below W.heap.size W w' := fun W => wordOrDigit (s.extract i k) (Nat.le_trans (extract_le s i k) hs) W
    obtain ⟨q, eq⟩ : ∃ q : Int, (if wordB (s.extract i k).data.toList = true then 1 else 2) = q := ⟨_, rfl⟩
    obtain ⟨ok, eo⟩ : ∃ ok, (wordB (s.extract i k).data.toList || numB (s.extract i k).data.toList) = ok := ⟨_, rfl⟩
    rw [eq, eo] at ht
    simp only [eq, eo] at k26
    have HT : Hid _ := ht
    have hsl := sliced s i k (by omega) hle.2
    clear eq eo ht ek hle hc
    go_enter Try.func18, Try.ntmps18
    go_wp2_with (first
      | (go_at_call 25; refine (k25 _).mono ?_; rintro e w' ⟨rfl, rfl⟩)
      | (go_at_call 26; refine (k26 _).mono ?_; rintro e w3 ⟨rfl, hb⟩; obtain ⟨d0, d1, z0, z1⟩ := still2 hb; have HB : Hid _ := hb; clear hb))
    refine bodyPost_ret (v := .tuple #[.agg #[.int .i64 q, .string (s.extract i k)], .bool ok]) (by simp [results, Try.results18, go_sem, *]) rfl ?_
    exact ⟨below_set2 HB.out, q, _, ok, rfl, HT.out⟩
  · obtain rfl : k = i := by omega
    have k27 : ∀ W, Calls Try.prog 27 #[.string (s.extract k s.size)] W fun e w' => e = .returned (.string ⟨((s.data.toList.drop k).take (signLen (s.data.toList.drop k))).toArray⟩) ∧ Below W.heap.size W w' := fun W => by
      have h := longestSign (s.extract k s.size) W
      rwa [extract_all] at h
    by_cases hn : signLen (s.data.toList.drop k) = 0
    · have ht := fun q t => tok_none (s := s) (i := k) (by omega) hn q t
      rw [hn] at k27
      have HT : Hid _ := ht
      have hnil : (ByteArray.mk #[]).toList = [] := by rw [ByteArray.toList_eq]
      simp only [List.take_zero] at k27
      clear hn ht ek hle hc
      go_enter Try.func18, Try.ntmps18
      go_wp2_with (first
        | (go_at_call 25; refine (k25 _).mono ?_; rintro e w' ⟨rfl, rfl⟩)
        | (go_at_call 27; refine (k27 _).mono ?_; rintro e w3 ⟨rfl, hb⟩; obtain ⟨d0, d1, z0, z1⟩ := still2 hb; have HB : Hid _ := hb; clear hb))
      refine bodyPost_ret (v := .tuple #[.agg #[.int .i64 3, .string ⟨#[]⟩], .bool false]) (by simp [results, Try.results18, go_sem, *]) rfl ?_
      exact ⟨below_set2 HB.out, 3, _, false, rfl, HT.out _ _⟩
    · have ht := tok_sign (s := s) (i := k) (by omega) hn
      have hls := signLen_le (s.data.toList.drop k)
      obtain ⟨t, et⟩ : ∃ t : ByteArray, t = ⟨((s.data.toList.drop k).take (signLen (s.data.toList.drop k))).toArray⟩ := ⟨_, rfl⟩
      have hne : (t.toList == []) = false := by
        rw [ByteArray.toList_eq, et, beq_eq_false_iff_ne]
        intro e
        have h2 : ((s.data.toList.drop k).take (signLen (s.data.toList.drop k))).length = 0 := by
          have h3 : (s.data.toList.drop k).take (signLen (s.data.toList.drop k)) = [] := e
          rw [h3]
          rfl
        rw [List.length_take] at h2
        omega
      rw [← et] at k27 ht
      have HT : Hid _ := ht
      have hnil : (ByteArray.mk #[]).toList = [] := by rw [ByteArray.toList_eq]
      clear hn ht ek hle hc et hls
      go_enter Try.func18, Try.ntmps18
      go_wp2_with (first
        | (go_at_call 25; refine (k25 _).mono ?_; rintro e w' ⟨rfl, rfl⟩)
        | (go_at_call 27; refine (k27 _).mono ?_; rintro e w3 ⟨rfl, hb⟩; obtain ⟨d0, d1, z0, z1⟩ := still2 hb; have HB : Hid _ := hb; clear hb))
      refine bodyPost_ret (v := .tuple #[.agg #[.int .i64 3, .string t], .bool true]) (by simp [results, Try.results18, go_sem, *]) rfl ?_
      exact ⟨below_set2 HB.out, 3, _, true, rfl, HT.out⟩
end Go.Proofs.Ytmmcpjmgindpkad.TokenAt
