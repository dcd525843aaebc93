/-
  WHAT token.Cut GIVES: the tokens of a text, or what it is refused with.
  Conditions: none.
-/
import Derived.Test.YtmmcpjmgindpkadTokenAt
namespace Go.Proofs.Ytmmcpjmgindpkad.Cut
open Go.RowKit Bytes Words Numbers Signs Longest SignLen TokenAt

def gapB (n : Nat) : Bool := decide (n = 32 ∨ n = 10)

/-- P5.2: the tokens from a place on, behind those that there are -/
def cut (l : List UInt8) : Nat → Nat → List (Int × List UInt8) → List (Int × List UInt8) × Int
  | 0, _, acc => (acc, 0)
  | f + 1, i, acc =>
    if i < l.length then
      if gapB (at_ l i) = true then cut l f (i + 1) acc
      else match TokenAt.tok l i with
        | none => ([], 4)
        | some t => cut l f (i + t.2.length) (acc ++ [t])
    else (acc, 0)

/-- P5.2: the tokens of a text, and what it is refused with -/
def cutOf (l : List UInt8) : List (Int × List UInt8) × Int := if 3000 < l.length then ([], 1) else cut l (l.length + 1) 0 []

theorem cut_end {l : List UInt8} {f i : Nat} {acc : List (Int × List UInt8)} (h : l.length ≤ i) : cut l f i acc = (acc, 0) := by
  cases f with
  | zero => rfl
  | succ f => rw [cut, if_neg (by omega)]

theorem cut_gap {l : List UInt8} {f i : Nat} {acc : List (Int × List UInt8)} (h : i < l.length) (hg : gapB (at_ l i) = true) : cut l (f + 1) i acc = cut l f (i + 1) acc := by
  rw [cut, if_pos h, if_pos hg]

theorem cut_bad {l : List UInt8} {f i : Nat} {acc : List (Int × List UInt8)} (h : i < l.length) (hg : gapB (at_ l i) = false) (ht : TokenAt.tok l i = none) : cut l (f + 1) i acc = ([], 4) := by
  rw [cut, if_pos h, if_neg (by rw [hg]; decide), ht]

theorem cut_tok {l : List UInt8} {f i : Nat} {acc : List (Int × List UInt8)} {t : Int × List UInt8} (h : i < l.length) (hg : gapB (at_ l i) = false) (ht : TokenAt.tok l i = some t) : cut l (f + 1) i acc = cut l f (i + t.2.length) (acc ++ [t]) := by
  rw [cut, if_pos h, if_neg (by rw [hg]; decide), ht]

theorem tok_len {l : List UInt8} {i : Nat} {t : Int × List UInt8} (hi : i < l.length) (h : TokenAt.tok l i = some t) : 1 ≤ t.2.length ∧ i + t.2.length ≤ l.length := by
  have hle := endOf_le l i (by omega)
  have hs := signLen_le (l.drop i)
  rw [List.length_drop] at hs
  unfold TokenAt.tok at h
  split at h
  · split at h
    · cases h
      simp only [List.length_take, List.length_drop]
      omega
    · split at h
      · cases h
        simp only [List.length_take, List.length_drop]
        omega
      · cases h
  · split at h
    · cases h
    · cases h
      simp only [List.length_take, List.length_drop]
      omega

/-- the cells of tokens -/
def flat (l : List (Int × List UInt8)) : List Value := l.flatMap fun t => [.int .i64 t.1, .string ⟨t.2.toArray⟩]

theorem flat_snoc (l : List (Int × List UInt8)) (k : Int) (b : ByteArray) : flat (l ++ [(k, b.data.toList)]) = flat l ++ [.int .i64 k, .string b] := by
  simp [flat, List.flatMap_append]

theorem info32 : (Try.prog.info? 32).map (fun i => (i.zero, i.size, i.bytes)) = some (some (.agg #[.int .i64 0, .string ⟨#[]⟩]), 2, 24) := by kernel_rfl

theorem two_news {w : World} {v0 v1 : Value} {t : TypeId} : ∀ (j : Nat) (u : Value), [v0, v1][j]? = some u → (w.alloc (.cells #[v0, v1] t)).cell? ((⟨w.heap.size, 0, none⟩ : Addr).add j) = some u := by
  intro j u hj
  match j, hj with
  | 0, hj => simp at hj; subst hj; simp [Addr.add]
  | 1, hj => simp at hj; subst hj; simp [Addr.add]

theorem two_news1 {w : World} {o : Obj} {v0 v1 : Value} {t : TypeId} : ∀ (j : Nat) (u : Value), [v0, v1][j]? = some u → ((w.alloc o).alloc (.cells #[v0, v1] t)).cell? ((⟨w.heap.size + 1, 0, none⟩ : Addr).add j) = some u := by
  have h := @two_news (w.alloc o) v0 v1 t
  rwa [World.size_alloc] at h

theorem row_mono {w : World} {B B' : Nat} {e : TypeId} {size n : Nat} {v : Value} {xs : List Value} (h : w.ownsRow B e size v n xs) (hB : B' ≤ B) : w.ownsRow B' e size v n xs := by
  refine ⟨h.1, ?_⟩
  rcases h.2 with h0 | ⟨g, cap, cur, hv, hg, rest⟩
  · exact .inl h0
  · exact .inr ⟨g, cap, cur, hv, Nat.le_trans hB hg, rest⟩

theorem two_one {k : Int} {b : ByteArray} : ∀ u ∈ [Value.int .i64 k, .string b], u.oneCell' = true := by
  intro u hu
  simp at hu
  rcases hu with rfl | rfl <;> rfl

theorem owns_below {w w' : World} {base : Nat} {e : TypeId} {size n : Nat} {v : Value} {xs : List Value} (h : w.ownsRow base e size v n xs) (hb : Below w.heap.size w w') : w'.ownsRow base e size v n xs :=
  h.kept (row := none) ⟨hb.os, hb.tape, hb.output, hb.size, fun k hk _ => hb.block k hk⟩ (by cases hv : v.ownBlock <;> simp)

theorem great (s : ByteArray) (h : 3000 < s.size) (w : World) : Calls Try.prog 8 #[.string s] w fun e w' => e = .returned (.tuple #[.slice none 0 0, .int .i64 1]) ∧ w' = w := by
  have hI : (3000 : Int) < s.size := by omega
  go_enter Try.func8, Try.ntmps8
  go_wp2
  go_ret2
  exact ⟨rfl, rfl⟩

/-- the token's cell behind the append -/
theorem kept_text {w3 w4 : World} {o2 : Obj} {v : Value} {k : Int} {t : ByteArray} {base n : Nat} {xs : List Value} (ho : w3.ownsRow base 32 2 v n xs) (hg : ((w3.alloc (.cells #[.int .i64 k, .string t] 32)).alloc o2).grownBy w4 v.ownBlock) : w4.cell? ⟨w3.heap.size, 1, none⟩ = some (.string t) := by
  have h1 := World.size_alloc w3 (.cells #[.int .i64 k, .string t] 32)
  have h2 := World.size_alloc (w3.alloc (.cells #[.int .i64 k, .string t] 32)) o2
  have hb : w4.heap[w3.heap.size]? = _ := hg.5 w3.heap.size (by omega) (fun e => by have := (ho.lt _ e.symm).2; omega)
  rw [Below.heap_alloc _ _ _ (by omega), heap_alloc_new] at hb
  exact cell_of_heap hb rfl

set_option maxRecDepth 100000 in
set_option maxHeartbeats 4000000 in
theorem cutGo (s : ByteArray) (hs : s.size ≤ 3000) (R : List (Int × List UInt8) × Int) (hR : cut s.data.toList (s.data.toList.length + 1) 0 [] = R) (w : World) :
    Calls Try.prog 8 #[.string s] w fun e w' => Below w.heap.size w w' ∧ ∃ v, e = .returned (.tuple #[v, .int .i64 R.2]) ∧ w'.ownsRow w.heap.size 32 2 v R.1.length (flat R.1) := by
  have hlen : s.data.toList.length = s.size := by cases s; rfl
  have hm : s.size ≤ maxLen := by unfold maxLen; omega
  have hsI : (s.size : Int) ≤ 3000 := by omega
  have hc0 : (w.alloc (.cells #[.string s] 9)).cell? ⟨w.heap.size, 0, none⟩ = some (.string s) := cell_of_heap (heap_alloc_new w _) rfl
  obtain ⟨i0, hi, hz0, hz1, hz2⟩ := info_parts info32
  obtain ⟨W1, eW⟩ : ∃ W1, W1 = w.alloc (.cells #[.string s] 9) := ⟨_, rfl⟩
  have hW1 : Below w.heap.size w W1 := by rw [eW]; exact (Below.refl _ _).alloc (Nat.le_refl _) _
  have hsz1 : W1.heap.size = w.heap.size + 1 := by rw [eW]; exact World.size_alloc _ _
  rw [← eW] at hc0
  have k13 : Calls Try.prog 13 #[.string s] w fun e w' => e = .returned (.func (.func 24) #[] #[.pointer (some ⟨w.heap.size, 0, none⟩)]) ∧ w' = W1 := by rw [eW]; exact lookInto s w
  have K13 : Hid (∀ W, W = w → Calls Try.prog 13 #[.string s] W fun e w' => e = .returned (.func (.func 24) #[] #[.pointer (some ⟨w.heap.size, 0, none⟩)]) ∧ w' = W1) := fun W h => by rw [h]; exact k13
  rw [hlen] at hR
  have HR : Hid _ := hR
  have HSZ : Hid _ := hsz1
  have HW1 : Hid _ := hW1
  clear k13 eW hR hsz1 hW1
  go_enter Try.func8, Try.ntmps8
  go_wp2_with (go_at_call 13; refine (K13.out _ rfl).mono ?_; rintro e W1 ⟨rfl, rfl⟩)
  go_loopw [5, 6] (fun v p wr => ∃ (i f : Nat) (acc : List (Int × List UInt8)), i ≤ s.size ∧ p = .int .i64 i ∧ Hid (s.size < i + f ∧ cut s.data.toList f i acc = R ∧ acc.length ≤ i) ∧ wr.ownsRow W1.heap.size 32 2 v acc.length (flat acc) ∧ Below W1.heap.size W1 wr) (fun _ p _ => s.size - (intOf p).toNat)
  case atStart => exact ⟨0, s.size + 1, [], Nat.zero_le _, rfl, ⟨by omega, HR.out, Nat.zero_le _⟩, World.ownsRow_nil _ _ _ _, Below.refl _ _⟩
  case round =>
    obtain ⟨i, f, acc, hi', rfl, HF, hown, hbel⟩ := hrel
    have hcw : wr.cell? ⟨w.heap.size, 0, none⟩ = some (.string s) := (hbel.cell (p := ⟨w.heap.size, 0, none⟩) (by have := HSZ.out; show w.heap.size < _; omega)).trans hc0
    by_cases hlt : i < s.size
    · have hltI : (i : Int) < s.size := by omega
      obtain ⟨x, hx⟩ : ∃ x : Int, (at_ s.data.toList i : Int) = x := ⟨_, rfl⟩
      have k24 : ∀ W, W = wr → Calls Try.prog 24 #[.int .i64 i, .pointer (some ⟨w.heap.size, 0, none⟩)] W fun e w' => e = .returned (.int .u8 x) ∧ w' = W := fun W h => by
        subst h
        rw [← hx]
        exact Bytes.look s hm i _ _ hcw
      have K24 : Hid _ := k24
      obtain ⟨f', rfl⟩ : ∃ f', f = f' + 1 := ⟨f - 1, by have := HF.out.1; omega⟩
      by_cases hg : x = 32 ∨ x = 10
      · have hgb : gapB (at_ s.data.toList i) = true := decide_eq_true (by omega)
        have HN : Hid (cut s.data.toList f' (i + 1) acc = R) := (cut_gap (by omega) hgb).symm.trans HF.out.2.1
        have HG : Hid _ := hg
        have HL : Hid _ := hbel
        have HO : Hid _ := hown
        clear hg hgb k24 hx hcw hbel hown
        go_wp2_with (first
          | (go_at_call 24; refine (K24.out _ rfl).mono ?_; rintro e w' ⟨rfl, rfl⟩)
          | (go_at_call 17; refine (gap_yes _ HG.out _).mono ?_; rintro e w' ⟨rfl, rfl⟩))
        go_roundw
        case rel => exact ⟨i + 1, f', acc, by omega, by go_num, ⟨by have := HF.out.1; omega, HN.out, by have := HF.out.2.2; omega⟩, HO.out, HL.out⟩
        case measure => simp [intOf]; omega
      · have hgb : gapB (at_ s.data.toList i) = false := decide_eq_false (by omega)
        have HG0 : Hid (x < 32 ∨ 32 < x) := (by omega : x < 32 ∨ 32 < x)
        have HG1 : Hid (x < 10 ∨ 10 < x) := (by omega : x < 10 ∨ 10 < x)
        have HGB : Hid _ := hgb
        have k18 : ∀ W, W = wr → Calls Try.prog 18 #[.string s, .func (.func 24) #[] #[.pointer (some ⟨w.heap.size, 0, none⟩)], .int .i64 i] W fun e w' => Below wr.heap.size wr w' ∧ ∃ k t ok, e = .returned (.tuple #[.agg #[.int .i64 k, .string t], .bool ok]) ∧ Hid (Tok s.data.toList i k t ok) := fun W h => by
          subst h
          exact tokenAt s hs i _ hlt _ hcw
        have HL : Hid _ := hbel
        have HO : Hid _ := hown
        cases ht : TokenAt.tok s.data.toList i with
        | none =>
          have K18 : Hid (∀ W, W = wr → Calls Try.prog 18 #[.string s, .func (.func 24) #[] #[.pointer (some ⟨w.heap.size, 0, none⟩)], .int .i64 i] W fun e w' => Below wr.heap.size wr w' ∧ ∃ k t, e = .returned (.tuple #[.agg #[.int .i64 k, .string t], .bool false])) := fun W h => (k18 W h).mono fun e w' ⟨hb, k, t, ok, he, hT⟩ => ⟨hb, k, t, by
            cases ok
            · exact he
            · have := hT.out.yes rfl
              rw [ht] at this
              cases this⟩
          have HN : Hid (R = ([], 4)) := HF.out.2.1.symm.trans (cut_bad (by omega) HGB.out ht)
          clear hg hgb k24 hx hcw k18 ht hbel hown
          go_wp2_with (first
            | (go_at_call 24; refine (K24.out _ rfl).mono ?_; rintro e w' ⟨rfl, rfl⟩)
            | (go_at_call 17; refine (gap_no _ (by have := HG0.out; omega) (by have := HG1.out; omega) _).mono ?_; rintro e w' ⟨rfl, rfl⟩)
            | (go_at_call 18; refine (K18.out _ rfl).mono ?_; rintro e w3 ⟨hb3, k, t, rfl⟩; have HB3 : Hid _ := hb3; clear hb3))
          go_ret2
          have h3 := HL.out.trans (HB3.out.mono HL.out.size)
          exact ⟨(HW1.out.trans (h3.mono HW1.out.size)).alloc (Nat.le_trans HW1.out.size h3.size) _, .slice none 0 0, by rw [HN.out]; rfl, by rw [HN.out]; exact World.ownsRow_nil _ _ _ _⟩
        | some q =>
          obtain ⟨k, tl⟩ := q
          obtain ⟨t, et⟩ : ∃ t : ByteArray, t = ⟨tl.toArray⟩ := ⟨_, rfl⟩
          have htl : t.data.toList = tl := by rw [et]
          have hts : t.size = tl.length := by rw [et]; exact size_mk tl
          have hlen2 := tok_len (by omega) ht
          have K18 : Hid (∀ W, W = wr → Calls Try.prog 18 #[.string s, .func (.func 24) #[] #[.pointer (some ⟨w.heap.size, 0, none⟩)], .int .i64 i] W fun e w' => Below wr.heap.size wr w' ∧ e = .returned (.tuple #[.agg #[.int .i64 k, .string t], .bool true])) := fun W h => (k18 W h).mono fun e w' ⟨hb, k', t', ok, he, hT⟩ => ⟨hb, by
            cases ok
            · have := hT.out.no rfl
              rw [ht] at this
              cases this
            · have h1 := hT.out.yes rfl
              rw [ht] at h1
              injection h1 with h1
              injection h1 with h1 h2
              rw [he, h1, et, h2]⟩
          have HN : Hid (cut s.data.toList f' (i + t.size) (acc ++ [(k, t.data.toList)]) = R) := by
            rw [hts, htl]
            exact (cut_tok (by omega) HGB.out ht).symm.trans HF.out.2.1
          have htI : (i : Int) + t.size ≤ 3000 := by have := hlen2.2; simp only at this; omega
          have HT1 : Hid (1 ≤ t.size ∧ i + t.size ≤ s.size) := (by have h1 := hlen2.1; have h2 := hlen2.2; simp only at h1 h2; omega : 1 ≤ t.size ∧ i + t.size ≤ s.size)
          have HAC := HF.out.2.2
          clear hg hgb k24 hx hcw k18 ht hbel hown et htl hts hlen2
          go_wp2_with (first
            | (go_at_call 24; refine (K24.out _ rfl).mono ?_; rintro e w' ⟨rfl, rfl⟩)
            | (go_at_call 17; refine (gap_no _ (by have := HG0.out; omega) (by have := HG1.out; omega) _).mono ?_; rintro e w' ⟨rfl, rfl⟩)
            | (go_at_call 18; refine (K18.out _ rfl).mono ?_; rintro e w3 ⟨hb3, rfl⟩; have hown3 := owns_below HO.out hb3; have hbel3 := HL.out.trans (hb3.mono HL.out.size); have hsz3 := hbel3.size; have HB3 : Hid _ := hbel3; clear hb3 hbel3)
            | (at_builtin; refine wpList_append_own _ rfl _ _ 25 rfl W1.heap.size 32 i0 (.agg #[.int .i64 0, .string ⟨#[]⟩]) 2 24 Try.underlying25 hi hz0 hz1 hz2 rfl (by decide) _ _ _ rfl ((hown3.alloc _).alloc _) ⟨w3.heap.size + 1, 0, none⟩ 1 1 [.int .i64 k, .string t] rfl rfl two_news1 two_one (by unfold maxLen; omega) (by omega) (by simp; omega) ?_; intro v' w4 hown4 hgrow4 _; have q1 := kept_text hown3 hgrow4; have HO4 : Hid _ := hown4; have HG4 : Hid _ := hgrow4; clear hown4 hgrow4))
          go_roundw
          case rel => exact ⟨i + t.size, f', acc ++ [(k, t.data.toList)], HT1.out.2, by go_num, ⟨by have h1 := HF.out.1; have h2 := HT1.out.1; omega, HN.out, by have h2 := HT1.out.1; simp; omega⟩, by rw [flat_snoc, List.length_append]; exact HO4.out, ((HB3.out.alloc hsz3 _).alloc (by simp; omega) _).grown HG4.out (by simp; omega) (fun g hg => (hown3.lt g hg).1)⟩
          case measure => have h2 := HT1.out.1; simp [intOf]; omega
    · obtain rfl : i = s.size := by omega
      have HN : Hid (R = (acc, 0)) := HF.out.2.1.symm.trans (cut_end (by omega))
      clear hcw
      go_wp2
      go_ret2
      exact ⟨HW1.out.trans (hbel.mono HW1.out.size), u5, by rw [HN.out]; rfl, by rw [HN.out]; exact row_mono hown (by have := HSZ.out; omega)⟩
end Go.Proofs.Ytmmcpjmgindpkad.Cut
