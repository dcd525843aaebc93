/-
  WHAT tree.Ident AND THE DOCUMENT's NameMay GIVE (P6.1): a word that is none of the ten.
  Conditions: none.
-/
import Derived.Test.YtmbbkabecipkaaeWords
namespace Go.Proofs.Ytmbbkabecipkaae.Ident
open Go.RowKit Bytes Words

/-- the ten words that are no names -/
def kwL : List (List UInt8) := [[117, 110, 105, 116], [118, 97, 114], [97, 114, 114, 97, 121], [102, 117, 110, 99], [111, 112, 101, 110], [105, 102], [101, 108, 115, 101], [119, 104, 105, 108, 101], [114, 101, 116, 117, 114, 110], [115, 97, 121]]

/-- P6.1 -/
def identB (s : ByteArray) : Bool := !(kwL.any fun k => s.toList == k) && wordB s.data.toList

theorem ident_kw {s : ByteArray} {k : List UInt8} (hk : k ∈ kwL) (h : (s.toList == k) = true) : identB s = false := by
  have : (kwL.any fun k => s.toList == k) = true := List.any_eq_true.2 ⟨k, hk, h⟩
  simp [identB, this]

theorem toList_loop (s : ByteArray) : ∀ n i r, s.size - i = n → ByteArray.toList.loop s i r = r.reverse ++ s.data.toList.drop i := by
  intro n
  induction n with
  | zero =>
    intro i r h
    rw [ByteArray.toList.loop.eq_def, if_neg (by omega), List.drop_eq_nil_of_le (by have : s.data.toList.length = s.size := rfl; omega), List.append_nil]
  | succ n ih =>
    intro i r h
    have hi : i < s.data.toList.length := by have : s.data.toList.length = s.size := rfl; omega
    rw [ByteArray.toList.loop.eq_def, if_pos (by omega), ih (i + 1) _ (by omega), List.drop_eq_getElem_cons hi]
    have e : s.get! i = s.data.toList[i] := by
      obtain ⟨⟨l⟩⟩ := s
      have hl : i < l.length := hi
      show l.toArray[i]! = l[i]
      simp [hl]
    rw [e]
    simp
theorem toList_eq (s : ByteArray) : s.toList = s.data.toList := by
  rw [ByteArray.toList, toList_loop s _ 0 [] rfl]
  rfl

/-- stands it among the first n? -/
def foundB (z : Nat → ByteArray) (s : ByteArray) : Nat → Bool
  | 0 => false
  | n + 1 => foundB z s n || ((z n).toList == s.toList)

theorem foundB_yes {z : Nat → ByteArray} {s : ByteArray} : ∀ {n j : Nat}, j < n → ((z j).toList == s.toList) = true → foundB z s n = true
  | 0, j, hj, _ => by omega
  | n + 1, j, hj, h => by
    rw [foundB]
    rcases Nat.lt_succ_iff_lt_or_eq.1 hj with h1 | rfl
    · rw [foundB_yes h1 h, Bool.true_or]
    · rw [h, Bool.or_true]

theorem foundB_next {z : Nat → ByteArray} {s : ByteArray} {n : Nat} (h : foundB z s n = false) (h1 : ((z n).toList == s.toList) = false) : foundB z s (n + 1) = false := by rw [foundB, h, h1]; rfl

/-- texts that lie in a row -/
def Texts (w : World) (g off n : Nat) (z : Nat → ByteArray) : Prop := ∀ j, j < n → w.cell? ⟨g, off + j, none⟩ = some (.string (z j))

set_option maxRecDepth 100000 in
theorem has (g off n cap : Nat) (hn : n ≤ 100000) (z : Nat → ByteArray) (s : ByteArray) (w : World) (h : Texts w g off n z) :
    Calls Try.prog 22 #[.slice (some ⟨g, off, none⟩) n cap, .string s] w fun e w' => e = .returned (.bool (foundB z s n)) ∧ w' = w := by
  have H : Hid _ := h
  clear h
  have hnI : (n : Int) ≤ 100000 := by omega
  go_enter Try.func22, Try.ntmps22
  go_wp2
  go_loop [5] (fun i => ∃ k : Nat, k ≤ n ∧ i = .int .i64 k ∧ Hid (foundB z s k = false)) (fun i => n - (intOf i).toNat)
  case atStart => exact ⟨0, Nat.zero_le _, rfl, rfl⟩
  case round =>
    obtain ⟨m, hm, rfl, hno⟩ := hrel
    have HNO : Hid (foundB z s m = false) := hno
    clear hno
    by_cases hml : m < n
    · have c0 := H.out m hml
      have hmI : (m : Int) < n := by omega
      obtain ⟨t, et⟩ : ∃ t, t = z m := ⟨_, rfl⟩
      rw [← et] at c0
      have ET : Hid (t = z m) := et
      clear et
      rcases Bool.eq_false_or_eq_true (t.toList == s.toList) with hb | hb
      · go_wp2
        go_ret
        exact ⟨by rw [foundB_yes hml (by rw [← ET.out]; exact hb)]; rfl, rfl⟩
      · have HB : Hid _ := hb
        go_wp2
        go_round
        case rel => exact ⟨m + 1, by omega, by go_num, foundB_next HNO.out (by rw [← ET.out]; exact HB.out)⟩
        case measure => simp [intOf]; omega
    · obtain rfl : m = n := by omega
      go_wp2
      go_ret
      exact ⟨by rw [HNO.out]; rfl, rfl⟩

def kwZ (j : Nat) : ByteArray := ⟨(kwL.getD j []).toArray⟩

theorem kw_texts (w : World) : Texts (w.alloc (.cells #[.string ⟨#[117, 110, 105, 116]⟩, .string ⟨#[118, 97, 114]⟩, .string ⟨#[97, 114, 114, 97, 121]⟩, .string ⟨#[102, 117, 110, 99]⟩, .string ⟨#[111, 112, 101, 110]⟩, .string ⟨#[105, 102]⟩, .string ⟨#[101, 108, 115, 101]⟩, .string ⟨#[119, 104, 105, 108, 101]⟩, .string ⟨#[114, 101, 116, 117, 114, 110]⟩, .string ⟨#[115, 97, 121]⟩] 9)) w.heap.size 0 10 kwZ := by
  intro j hj
  match j, hj with
  | 0, _ => simp [kwZ, kwL]
  | 1, _ => simp [kwZ, kwL]
  | 2, _ => simp [kwZ, kwL]
  | 3, _ => simp [kwZ, kwL]
  | 4, _ => simp [kwZ, kwL]
  | 5, _ => simp [kwZ, kwL]
  | 6, _ => simp [kwZ, kwL]
  | 7, _ => simp [kwZ, kwL]
  | 8, _ => simp [kwZ, kwL]
  | 9, _ => simp [kwZ, kwL]

theorem kwZ_found (s : ByteArray) : foundB kwZ s 10 = kwL.any fun k => s.toList == k := by
  have e : ∀ j, ((kwZ j).toList == s.toList) = (s.toList == kwL.getD j []) := fun j => by rw [toList_eq (kwZ j)]; exact Bool.beq_comm
  simp only [foundB, e, kwL, List.getD_cons_zero, List.getD_cons_succ, List.any_cons, List.any_nil, Bool.or_false, Bool.false_or, Bool.or_assoc]

set_option maxRecDepth 100000 in
set_option maxHeartbeats 1000000 in
theorem nameMay (s : ByteArray) (hs : s.size ≤ maxLen) (w : World) : Calls Try.prog 16 #[.string s] w fun e w' => e = .returned (.bool (identB s)) ∧ Below w.heap.size w w' := by
  have k31 : ∀ W : World, _ := fun W => has w.heap.size 0 10 10 (by decide) kwZ s W
  obtain ⟨c, ec⟩ : ∃ c, c = foundB kwZ s 10 := ⟨_, rfl⟩
  rw [← ec] at k31
  have FB : Hid ((kwL.any fun k => s.toList == k) = c) := by rw [ec]; exact (kwZ_found s).symm
  clear ec
  have ht := kw_texts w
  obtain ⟨b, hb⟩ : ∃ b, b = wordB s.data.toList := ⟨_, rfl⟩
  have k26 : ∀ W, Calls Try.prog 21 #[.string s] W fun e w' => e = .returned (.bool b) ∧ w' = W := fun W => by rw [hb]; exact wordMay s hs W
  have HT : Hid _ := ht
  have K31 : Hid _ := k31
  have EB : Hid (identB s = (!(kwL.any fun k => s.toList == k) && b)) := by rw [hb]; exact (rfl : identB s = _)
  clear ht k31 hb
  cases b
  · go_enter Try.func16, Try.ntmps16
    go_wp2_with (go_at_call 21; refine (k26 _).mono ?_; rintro e w' ⟨rfl, rfl⟩)
    go_ret
    exact ⟨by rw [EB.out, Bool.and_false]; rfl, (Below.refl _ _).alloc (Nat.le_refl _) _⟩
  · go_enter Try.func16, Try.ntmps16
    go_wp2_with (first
      | (go_at_call 21; refine (k26 _).mono ?_; rintro e w' ⟨rfl, rfl⟩)
      | (go_at_call 22; refine (K31.out _ HT.out).mono ?_; rintro e w' ⟨rfl, rfl⟩))
    go_ret
    refine ⟨?_, (Below.refl _ _).alloc (Nat.le_refl _) _⟩
    rw [EB.out, Bool.and_true, FB.out]
    rfl
end Go.Proofs.Ytmbbkabecipkaae.Ident
