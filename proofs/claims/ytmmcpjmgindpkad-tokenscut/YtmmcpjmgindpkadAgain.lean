/-
  TOKENS THAT ARE TOLD AGAIN, with a blank and a newline between them, are cut the same; no Go in sight.
  Conditions: none.
-/
import Derived.Test.YtmmcpjmgindpkadRefSign
import Derived.Lib.Join
namespace Go.Proofs.Ytmmcpjmgindpkad.Again
open Bytes Words Numbers Signs SignLen TokenAt Go.Proofs.Ytmmcpjmgindpkad.Cut RefSign

theorem at_drop (l : List UInt8) (i k : Nat) : at_ (l.drop i) k = at_ l (i + k) := by
  unfold at_
  rw [List.getD_eq_getElem?_getD, List.getD_eq_getElem?_getD, List.getElem?_drop]

theorem endOf_drop (l : List UInt8) (i : Nat) : endOf l i = i + endOf (l.drop i) 0 := by
  unfold endOf
  rw [List.drop_zero]
  omega

theorem tok_drop (l : List UInt8) (i : Nat) : TokenAt.tok l i = TokenAt.tok (l.drop i) 0 := by
  unfold TokenAt.tok
  rw [endOf_drop l i, List.drop_zero, show i + endOf (l.drop i) 0 - i = endOf (l.drop i) 0 - 0 by omega]
  by_cases h : 0 < endOf (l.drop i) 0
  · rw [if_pos h, if_pos (by omega)]
  · rw [if_neg h, if_neg (by omega)]

/-- the tokens of what is left -/
theorem cut_drop (l : List UInt8) : ∀ f i acc, cut l f i acc = cut (l.drop i) f 0 acc := by
  intro f
  induction f generalizing l with
  | zero => intro i acc; rfl
  | succ f ih =>
    intro i acc
    by_cases hlt : i < l.length
    · have h0 : 0 < (l.drop i).length := by rw [List.length_drop]; omega
      cases hg : gapB (at_ l i)
      · have hg' : gapB (at_ (l.drop i) 0) = false := by rw [at_drop]; exact hg
        cases ht : TokenAt.tok l i with
        | none => rw [cut_bad hlt hg ht, cut_bad h0 hg' (by rw [← tok_drop]; exact ht)]
        | some t =>
          rw [cut_tok hlt hg ht, cut_tok h0 hg' (by rw [← tok_drop]; exact ht), ih l, ih (l.drop i), List.drop_drop, Nat.zero_add]
      · have hg' : gapB (at_ (l.drop i) 0) = true := by rw [at_drop]; exact hg
        rw [cut_gap hlt hg, cut_gap h0 hg', ih l, ih (l.drop i), List.drop_drop, Nat.zero_add]
    · rw [cut_end (by omega), cut_end (by rw [List.length_drop]; omega)]

/-- a token that may be -/
def Good (t : Int × List UInt8) : Prop := (t.1 = 1 ∧ wordB t.2 = true) ∨ (t.1 = 2 ∧ wordB t.2 = false ∧ numB t.2 = true) ∨ (t.1 = 3 ∧ (t.2 ∈ twos ∨ t.2 ∈ ones))

theorem good_tok {l : List UInt8} {i : Nat} {t : Int × List UInt8} (h : TokenAt.tok l i = some t) : Good t := by
  unfold TokenAt.tok at h
  split at h
  · split at h
    · next hw => cases h; exact .inl ⟨rfl, hw⟩
    · next hw =>
      split at h
      · next hn => cases h; exact .inr (.inl ⟨rfl, by simpa using hw, hn⟩)
      · cases h
  · split at h
    · cases h
    · next hs =>
      cases h
      refine .inr (.inr ⟨rfl, ?_⟩)
      unfold signLen at hs ⊢
      split
      · next h2 =>
        obtain ⟨x, hx, hp⟩ := List.any_eq_true.1 h2
        have h3 : ∀ x ∈ twos, x.length = 2 := by decide
        have h4 := prefix_take hp
        rw [h3 x hx] at h4
        exact .inl (h4 ▸ hx)
      · next h2 =>
        rw [if_neg h2] at hs
        split
        · next h1 =>
          obtain ⟨x, hx, hp⟩ := List.any_eq_true.1 h1
          have h3 : ∀ x ∈ ones, x.length = 1 := by decide
          have h4 := prefix_take hp
          rw [h3 x hx] at h4
          exact .inr (h4 ▸ hx)
        · next h1 =>
          rw [if_neg h1] at hs
          exact absurd rfl hs

theorem good_cut (l : List UInt8) : ∀ f i acc, (∀ t ∈ acc, Good t) → ∀ t ∈ (cut l f i acc).1, Good t := by
  intro f
  induction f with
  | zero => intro i acc h; exact h
  | succ f ih =>
    intro i acc h
    by_cases hlt : i < l.length
    · cases hg : gapB (at_ l i)
      · cases ht : TokenAt.tok l i with
        | none => rw [cut_bad hlt hg ht]; intro t h; simp at h
        | some t =>
          rw [cut_tok hlt hg ht]
          refine ih _ _ fun u hu => ?_
          rcases List.mem_append.1 hu with h1 | h1
          · exact h u h1
          · simp at h1; subst h1; exact good_tok ht
      · rw [cut_gap hlt hg]
        exact ih _ _ h
    · rw [cut_end (by omega)]
      exact h

/-- letters and digits alone -/
def Runs (t : List UInt8) : Prop := 1 ≤ t.length ∧ ∀ b ∈ t, (isLetter b.toNat || isDigit b.toNat) = true

theorem runs_of {t : List UInt8} (h0 : 1 ≤ t.length) (h : ∀ j, j < t.length → (isLetter (at_ t j) || isDigit (at_ t j)) = true) : Runs t := by
  refine ⟨h0, fun b hb => ?_⟩
  obtain ⟨j, hj, rfl⟩ := List.getElem_of_mem hb
  have := h j hj
  unfold at_ at this
  rwa [List.getD_eq_getElem?_getD, List.getElem?_eq_getElem hj] at this

theorem runs_word {t : List UInt8} (h : wordB t = true) : Runs t := by
  obtain ⟨_, h1, h2⟩ := word_of h
  have h0 : 1 ≤ t.length := Nat.lt_of_not_le fun hle => by
    rw [at_out (by omega)] at h1
    cases h1
  exact runs_of h0 fun j hj => (endOf_all 0 (Nat.zero_le _)).1 h2 j (Nat.zero_le _) hj

theorem runs_num {t : List UInt8} (h : numB t = true) : Runs t := by
  have h1 := (numB_iff t).1 h
  exact runs_of h1.1 fun j hj => by rw [h1.2.1 j hj, Bool.or_true]

/-- nothing, or a blank -/
def Blank (r : List UInt8) : Prop := r = [] ∨ ∃ r', r = 32 :: r'

theorem end_runs {t r : List UInt8} (h : Runs t) (hr : Blank r) : endOf (t ++ r) 0 = t.length := by
  unfold endOf
  rw [List.drop_zero, List.takeWhile_append_of_pos h.2]
  rcases hr with rfl | ⟨r', rfl⟩
  · simp
  · rw [List.takeWhile_cons, if_neg (by decide)]
    simp

theorem tok_good {t : Int × List UInt8} {r : List UInt8} (h : Good t) (hr : Blank r) : TokenAt.tok (t.2 ++ r) 0 = some t ∧ gapB (at_ (t.2 ++ r) 0) = false ∧ 1 ≤ t.2.length := by
  obtain ⟨k, t⟩ := t
  have hrun : Runs t → (TokenAt.tok (t ++ r) 0 = if wordB t = true then some (1, t) else if numB t = true then some (2, t) else none) ∧ gapB (at_ (t ++ r) 0) = false ∧ 1 ≤ t.length := fun hR => by
    have he := end_runs hR hr
    refine ⟨?_, ?_, hR.1⟩
    · unfold TokenAt.tok
      rw [he, if_pos (by have := hR.1; omega), List.drop_zero, Nat.sub_zero, List.take_left' rfl]
    · cases t with
      | nil => have := hR.1; simp at this
      | cons a t' =>
        have h1 := hR.2 a (by simp)
        show gapB a.toNat = false
        refine decide_eq_false fun h2 => ?_
        rcases h2 with h2 | h2 <;> rw [h2] at h1 <;> cases h1
  rcases h with ⟨rfl, hw⟩ | ⟨rfl, hw, hn⟩ | ⟨rfl, hs⟩
  · obtain ⟨h1, h2, h3⟩ := hrun (runs_word hw)
    simp only at hw
    rw [if_pos hw] at h1
    exact ⟨h1, h2, h3⟩
  · obtain ⟨h1, h2, h3⟩ := hrun (runs_num hn)
    simp only at hw hn
    rw [if_neg (by rw [hw]; decide), if_pos hn] at h1
    exact ⟨h1, h2, h3⟩
  · simp only [twos, ones, List.mem_cons, List.not_mem_nil, or_false] at hs
    rcases hr with rfl | ⟨r', rfl⟩
    · rcases hs with (rfl | rfl | rfl) | (rfl | rfl | rfl | rfl | rfl | rfl | rfl | rfl | rfl | rfl | rfl | rfl | rfl | rfl | rfl | rfl | rfl)
      all_goals exact ⟨rfl, rfl, by decide⟩
    · rcases hs with (rfl | rfl | rfl) | (rfl | rfl | rfl | rfl | rfl | rfl | rfl | rfl | rfl | rfl | rfl | rfl | rfl | rfl | rfl | rfl | rfl)
      all_goals exact ⟨rfl, rfl, by decide⟩

/-- texts, with a blank and a newline between them -/
def told (l : List (Int × List UInt8)) : List UInt8 := Lib.join (l.map Prod.snd) [32, 10]

theorem told_cons (t u : Int × List UInt8) (l : List (Int × List UInt8)) : told (t :: u :: l) = t.2 ++ (32 :: 10 :: told (u :: l)) := by
  unfold told Lib.join
  simp [List.intercalate]

theorem told_one (t : Int × List UInt8) : told [t] = t.2 := Lib.join_one _ _

/-- THEY ARE CUT AS THEY WERE -/
theorem cut_told : ∀ (l : List (Int × List UInt8)), (∀ t ∈ l, Good t) → ∀ f acc, (told l).length < f → cut (told l) f 0 acc = (acc ++ l, 0) := by
  intro l
  induction l with
  | nil =>
    intro _ f acc _
    rw [cut_end (by show (told []).length ≤ 0; exact Nat.le_refl _), List.append_nil]
  | cons t l ih =>
    intro hg f acc hf
    have ht := hg t (by simp)
    cases l with
    | nil =>
      rw [told_one] at hf ⊢
      obtain ⟨h1, h2, h3⟩ := tok_good (r := []) ht (.inl rfl)
      rw [List.append_nil] at h1 h2
      obtain ⟨f', rfl⟩ : ∃ f', f = f' + 1 := ⟨f - 1, by omega⟩
      rw [cut_tok (by omega) h2 h1, cut_end (by omega)]
    | cons u l =>
      rw [told_cons] at hf ⊢
      obtain ⟨h1, h2, h3⟩ := tok_good (r := 32 :: 10 :: told (u :: l)) ht (.inr ⟨_, rfl⟩)
      simp only [List.length_append, List.length_cons] at hf
      obtain ⟨f', rfl⟩ : ∃ f', f = f' + 1 + 1 + 1 := ⟨f - 3, by omega⟩
      rw [cut_tok (by simp; omega) h2 h1, Nat.zero_add, cut_drop, List.drop_left' rfl, cut_gap (by simp) rfl, cut_gap (by simp) rfl, cut_drop]
      show cut (told (u :: l)) f' 0 (acc ++ [t]) = _
      rw [ih (fun v hv => hg v (by simp at hv ⊢; right; exact hv)) f' (acc ++ [t]) (by omega), List.append_assoc]
      rfl
end Go.Proofs.Ytmmcpjmgindpkad.Again
