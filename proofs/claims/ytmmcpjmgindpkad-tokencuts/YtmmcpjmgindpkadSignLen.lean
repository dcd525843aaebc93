/-
  HOW LONG THE LONGEST SIGN IS that a text begins with; what token.longestSign and the document's signAt give, by it.
  Conditions: none.
-/
import Derived.Test.YtmmcpjmgindpkadLongest
import Derived.Deep.QuietTactic
import Derived.BigQuiet
namespace Go.Proofs.Ytmmcpjmgindpkad.SignLen
open Go.RowKit Bytes Signs Longest

def twos : List (List UInt8) := [[60, 60], [62, 62], [61, 61]]
def ones : List (List UInt8) := [[123], [125], [40], [41], [91], [93], [44], [59], [46], [61], [43], [45], [42], [38], [124], [94], [60]]

theorem signs_eq : signs = twos ++ ones := rfl

/-- how long the longest sign is that stands at the front; 0: there is none -/
def signLen (l : List UInt8) : Nat := if (twos.any fun x => x.isPrefixOf l) = true then 2 else if (ones.any fun x => x.isPrefixOf l) = true then 1 else 0

theorem upto_signs : upto 20 = signs.map fun t => (⟨t.toArray⟩ : ByteArray) := rfl

theorem best_is (l : List UInt8) (pre : List ByteArray) : (best l pre = ⟨#[]⟩ ∨ best l pre ∈ pre) ∧ Lib.hasPrefix l (best l pre).data.toList = true ∧ ∀ x ∈ pre, Lib.hasPrefix l x.data.toList = true → x.size ≤ (best l pre).size := by
  obtain ⟨n, hn⟩ : ∃ n, n = pre.length := ⟨_, rfl⟩
  induction n generalizing pre with
  | zero =>
    obtain rfl : pre = [] := List.eq_nil_of_length_eq_zero hn.symm
    exact ⟨.inl rfl, by simp [best, Lib.hasPrefix], fun x hx => by simp at hx⟩
  | succ n ih =>
    obtain ⟨p, x, rfl⟩ : ∃ p x, pre = p ++ [x] := ⟨pre.dropLast, pre.getLast (fun e => by rw [e] at hn; simp at hn), (List.dropLast_concat_getLast _).symm⟩
    obtain ⟨h1, h2, h3⟩ := ih p (by simp at hn; omega)
    rw [best_snoc]
    by_cases c : (decide ((best l p).size < x.size) && Lib.hasPrefix l x.data.toList) = true
    · rw [if_pos c]
      simp only [Bool.and_eq_true, decide_eq_true_eq] at c
      refine ⟨.inr (by simp), c.2, fun y hy hp => ?_⟩
      rcases List.mem_append.1 hy with h | h
      · exact Nat.le_of_lt (Nat.lt_of_le_of_lt (h3 y h hp) c.1)
      · simp at h; subst h; exact Nat.le_refl _
    · rw [if_neg c]
      refine ⟨h1.elim .inl (fun h => .inr (List.mem_append.2 (.inl h))), h2, fun y hy hp => ?_⟩
      rcases List.mem_append.1 hy with h | h
      · exact h3 y h hp
      · simp at h
        subst h
        simp only [Bool.and_eq_true, decide_eq_true_eq, not_and] at c
        exact Nat.le_of_not_lt fun hlt => c hlt hp

theorem prefix_take {x l : List UInt8} (h : x.isPrefixOf l = true) : x = l.take x.length := by
  have h' := List.isPrefixOf_iff_prefix.1 h
  exact List.prefix_iff_eq_take.1 h'

theorem any_of {ls : List (List UInt8)} {l x : List UInt8} (hx : x ∈ ls) (h : x.isPrefixOf l = true) : (ls.any fun x => x.isPrefixOf l) = true := List.any_eq_true.2 ⟨x, hx, h⟩

theorem size_mk (t : List UInt8) : (⟨t.toArray⟩ : ByteArray).size = t.length := by show t.toArray.size = _; simp

theorem best_sign (l : List UInt8) : best l (upto 20) = ⟨(l.take (signLen l)).toArray⟩ := by
  obtain ⟨h1, h2, h3⟩ := best_is l (upto 20)
  obtain ⟨b, eb⟩ : ∃ b, best l (upto 20) = b := ⟨_, rfl⟩
  rw [eb] at h1 h2 h3 ⊢
  have hb : ∃ t, b = ⟨t.toArray⟩ ∧ (t = [] ∨ t ∈ twos ∨ t ∈ ones) ∧ t.isPrefixOf l = true := by
    rcases h1 with rfl | h
    · exact ⟨[], rfl, .inl rfl, by simp⟩
    · rw [upto_signs] at h
      obtain ⟨t, ht, rfl⟩ := List.mem_map.1 h
      rw [signs_eq] at ht
      exact ⟨t, rfl, .inr (List.mem_append.1 ht), h2⟩
  obtain ⟨t, rfl, ht, hp⟩ := hb
  have htl : ∀ x ∈ twos, x.length = 2 := by decide
  have hol : ∀ x ∈ ones, x.length = 1 := by decide
  have hmax : ∀ x, x ∈ signs → x.isPrefixOf l = true → x.length ≤ t.length := fun x hx hxp => by
    have := h3 ⟨x.toArray⟩ (by rw [upto_signs]; exact List.mem_map.2 ⟨x, hx, rfl⟩) hxp
    rwa [size_mk, size_mk] at this
  have hk : t.length = signLen l := by
    unfold signLen
    split
    · next h =>
      obtain ⟨x, hx, hxp⟩ := List.any_eq_true.1 h
      have h4 := hmax x (by rw [signs_eq]; exact List.mem_append.2 (.inl hx)) hxp
      rw [htl x hx] at h4
      rcases ht with rfl | ht | ht
      · simp at h4
      · exact htl t ht
      · have := hol t ht; omega
    · next h =>
      split
      · next h' =>
        obtain ⟨x, hx, hxp⟩ := List.any_eq_true.1 h'
        have h4 := hmax x (by rw [signs_eq]; exact List.mem_append.2 (.inr hx)) hxp
        rw [hol x hx] at h4
        rcases ht with rfl | ht | ht
        · simp at h4
        · exact absurd (any_of ht hp) h
        · exact hol t ht
      · next h' =>
        rcases ht with rfl | ht | ht
        · rfl
        · exact absurd (any_of ht hp) h
        · exact absurd (any_of ht hp) h'
  rw [← hk, ← prefix_take hp]

theorem longestSign (s : ByteArray) (w : World) : Calls Try.prog 27 #[.string s] w fun e w' => e = .returned (.string ⟨(s.data.toList.take (signLen s.data.toList)).toArray⟩) ∧ Below w.heap.size w w' := by
  rw [← best_sign]
  exact longest s w

theorem signLen_le (l : List UInt8) : signLen l ≤ l.length ∧ signLen l ≤ 2 := by
  unfold signLen
  split
  · next h =>
    obtain ⟨x, hx, hp⟩ := List.any_eq_true.1 h
    have h1 := (List.isPrefixOf_iff_prefix.1 hp).length_le
    have h2 : ∀ x ∈ twos, x.length = 2 := by decide
    rw [h2 x hx] at h1
    omega
  · split
    · next h =>
      obtain ⟨x, hx, hp⟩ := List.any_eq_true.1 h
      have h1 := (List.isPrefixOf_iff_prefix.1 hp).length_le
      have h2 : ∀ x ∈ ones, x.length = 1 := by decide
      rw [h2 x hx] at h1
      omega
    · omega
end Go.Proofs.Ytmmcpjmgindpkad.SignLen
