/-
  WHAT mach.take AND tell GIVE.
  Conditions: each contract's own hypotheses (what it reads lies there).
-/
import Derived.Test.YtmmcpjmgindpkacDoorFrame
namespace Go.Proofs.YtmmcpjmgindpkacDoor.Take
open Go.RowKit Tab Go.Proofs.YtmmcpjmgindpkacDoor.Check Lists Img Mach Own Go.Proofs.YtmmcpjmgindpkacDoor.Inv Go.Proofs.YtmmcpjmgindpkacDoor.Frame

section
variable {own : Nat → Tag} {w1 w : World} {R D g cap : Nat} {pS lS vF vT vC : Value} {fuel : Int} {f : Fr} {v : Value} {F : List (Fr × Value)} {l data told : List Int} {C : List (Rec × Value)}

theorem take_few (h : Inv own w1 w R D pS lS (.slice (some ⟨g, 0, none⟩) (F.length + 1) cap) vT vC fuel ((f, v) :: F) l data told C) (m : Nat) (hm : m ≤ 4) (hw : f.words.length ≤ 40) (hf : ¬ m ≤ f.words.length) :
    Calls Tryd.prog 37 #[.pointer (some ⟨g, F.length * 12, none⟩), .int .i64 m] w fun e w' => e = .returned (.tuple #[.slice none 0 0, .bool false]) ∧ w' = w := by
  have c10 := h.top_cell 10 (u := v) (by simp [frCells, ints, h.rooms.1.2])
  obtain ⟨ao, cp, rfl, _, _⟩ := words_form h.rooms.1.1
  have hmI : (m : Int) ≤ 4 := by omega
  have hwI : (f.words.length : Int) ≤ 40 := by omega
  have hfI : (f.words.length : Int) < m := by omega
  obtain ⟨n, hn⟩ : ∃ n, n = f.words.length := ⟨_, rfl⟩
  rw [← hn] at c10 hwI hfI
  clear h hw hf hm hn
  go_enter Tryd.func37, Tryd.ntmps37
  go_wp2
  go_ret2
  exact ⟨rfl, rfl⟩

theorem frCells_words {f : Fr} {v : Value} (h : f.locals.length = 8) (ws : List Int) (v' : Value) : (frCells f v).set 10 v' = frCells { f with words := ws } v' := by
  simp only [frCells, List.set_cons_succ]
  rw [List.set_append_right _ _ (by simp [ints, h]), ints_length, h]
  rfl

set_option maxRecDepth 100000 in
theorem take (h : Inv own w1 w R D pS lS (.slice (some ⟨g, 0, none⟩) (F.length + 1) cap) vT vC fuel ((f, v) :: F) [] data told C) (m : Nat) (hm : m ≤ 4) (hw : f.words.length ≤ 40) (hf : m ≤ f.words.length) :
    Calls Tryd.prog 37 #[.pointer (some ⟨g, F.length * 12, none⟩), .int .i64 m] w fun e w' => ∃ tv, e = .returned (.tuple #[tv, .bool true]) ∧ ∃ v', Cut v' tv m ∧ Inv own w1 w' R D pS lS (.slice (some ⟨g, 0, none⟩) (F.length + 1) cap) vT vC fuel (({ f with words := f.words.take (f.words.length - m) }, v') :: F) (f.words.drop (f.words.length - m)) data told C := by
  have c10 := h.top_cell 10 (u := v) (by simp [frCells, ints, h.rooms.1.2])
  have z10 := h.top_frozen (F.length * 12 + 10)
  have hW := h.rooms.1.1
  have h8 := h.rooms.1.2
  have key := fun v' hv => h.top_set (f' := { f with words := f.words.take (f.words.length - m) }) (v' := v') (l' := f.words.drop (f.words.length - m)) 10 v' (frCells_words h8 _ _) ⟨hW.take m hf hv, h8⟩
  rcases hW with ⟨rfl, hn, _⟩ | ⟨gw, cp, cur, rfl, ht, hg, h1, h2, h3, h4⟩
  · have m0 : m = 0 := by rw [hn] at hf; simpa using hf
    subst m0
    have KEY : Hid _ := key
    clear h key hn hf hm hw
    go_enter Tryd.func37, Tryd.ntmps37
    go_wp2
    go_ret2
    exact ⟨_, rfl, _, ⟨none, 0, rfl, fun h => absurd h (by omega)⟩, (by simpa using (KEY.out (.slice none 0 0) ⟨fun _ => rfl, fun g cap e => by cases e⟩))⟩
  · have hmI : (m : Int) ≤ 4 := by omega
    have hwI : (f.words.length : Int) ≤ 40 := by omega
    have hfI : (m : Int) ≤ f.words.length := by omega
    have h1' : f.words.length ≤ cp := by simpa using h1
    have hcI : (f.words.length : Int) ≤ cp := by omega
    have h2I : (cp : Int) ≤ 9223372036854775807 := by unfold maxLen at h2; omega
    obtain ⟨n, hn⟩ : ∃ n, n = f.words.length := ⟨_, rfl⟩
    have HN : Hid _ := hn
    have em' : n - (n - m) = m := by omega
    rw [← hn] at c10 hwI hfI hcI h1' hf
    have KEY : Hid _ := key
    have em : Hid (n - (n - m) = m) := em'
    clear h key hn hm hw hg h1 h3 h4 ht h2 h8 em'
    go_enter Tryd.func37, Tryd.ntmps37
    go_wp2
    · go_ret2
      have m0 : m = 0 := by omega
      refine ⟨_, rfl, _, ⟨some ⟨gw, 0, none⟩, 0, by rw [em.out]; rfl, fun h => absurd h (by omega)⟩, KEY.out _ ⟨fun e => (by cases e), fun g cap e => ?_⟩⟩
      simp only [Value.slice.injEq, Option.some.injEq, Addr.mk.injEq] at e
      obtain ⟨⟨rfl, _⟩, _, rfl⟩ := e
      rw [show cp = n - m by assumption, HN.out]
    · go_ret2
      refine ⟨_, rfl, _, ⟨some ⟨gw, n - m, none⟩, cp - (n - m), by rw [em.out]; rfl, fun _ => ⟨gw, n - m, cp, rfl, rfl⟩⟩, KEY.out _ ⟨fun e => (by cases e), fun g cap e => ?_⟩⟩
      simp only [Value.slice.injEq, Option.some.injEq, Addr.mk.injEq] at e
      obtain ⟨⟨rfl, _⟩, _, rfl⟩ := e
      rw [HN.out]

theorem one_new {w : World} (n : Int) {t : TypeId} : ∀ (j : Nat) (u : Value), (ints [n])[j]? = some u → (w.alloc (.cells #[.int .i64 n] t)).cell? ((⟨w.heap.size, 0, none⟩ : Addr).add j) = some u := by
  intro j u hj
  match j, hj with
  | 0, hj => simp [ints] at hj; subst hj; simp [Addr.add]
  | j + 1, hj => simp [ints] at hj

theorem tell_long (n : Int) (w : World) (R : Nat) (ao : Option Addr) (cp : Nat) (c : w.cell? ⟨R, 6, none⟩ = some (.slice ao 500 cp)) :
    Calls Tryd.prog 51 #[.pointer (some ⟨R, 0, none⟩), .int .i64 n] w fun e w' => e = .returned (.int .i64 6) ∧ w' = w := by
  go_enter Tryd.func51, Tryd.ntmps51
  go_wp2
  go_ret
  exact ⟨rfl, rfl⟩

theorem owned_form {e : TypeId} {size n : Nat} {v : Value} {xs : List Value} {t : Tag} (h : Owned own w e size v n xs t) : ∃ ao cp, v = .slice ao n cp := by
  rcases h.row.2 with ⟨h0, h1⟩ | ⟨g, cap, cur, hv, _⟩
  · subst h1
    exact ⟨_, _, h0⟩
  · exact ⟨_, _, hv⟩

set_option maxRecDepth 100000 in
theorem tell (h : Inv own w1 w R D pS lS vF vT vC fuel F l data told C) (n : Int) (ht : told.length < 500) :
    Calls Tryd.prog 51 #[.pointer (some ⟨R, 0, none⟩), .int .i64 n] w fun e w' => e = .returned (.int .i64 0) ∧ ∃ own' v', Inv own' w1 w' R D pS lS vF v' vC fuel F l data (told ++ [n]) C := by
  have hI := h.alloc (.cells #[.int .i64 n] 3)
  have c6 := h.run.cell 6 (v := vT) rfl
  have z6 := fun w' (m : Moves own (also own (w.heap.size + 1) (4, 0)) (w.alloc (.cells #[.int .i64 n] 3)) w' (4, 0)) => (hI.run.moves m (by decide)).frozen 6
  have q6 := fun w' (m : Moves own (also own (w.heap.size + 1) (4, 0)) (w.alloc (.cells #[.int .i64 n] 3)) w' (4, 0)) => (hI.run.moves m (by decide)).cell 6 (v := vT) rfl
  have key := fun v' w' => Inv.told_set (v' := v') (w' := w') (n := n) hI
  have hO := hI.told
  obtain ⟨ao, cp, rfl⟩ := owned_form h.told
  obtain ⟨i0, hi, hz0, hz1, hz2⟩ := info_parts info3
  have htI : (told.length : Int) < 500 := by omega
  have hne : ((told.length : Int) == 500) = false := by simp; omega
  obtain ⟨k, hk⟩ : ∃ k, k = told.length := ⟨_, rfl⟩
  rw [← hk] at c6 hO htI key ht q6 hne
  have KEY : Hid _ := key
  have HO : Hid _ := hO
  have Q6 : Hid _ := q6
  have Z6 : Hid _ := z6
  have NEW : Hid _ := one_new (w := w) n (t := 3)
  clear h key hk hO q6 z6 hI
  go_enter Tryd.func51, Tryd.ntmps51
  go_wp2_with (at_builtin; refine wpList_append_fresh _ rfl (.tmp 17) (.tmp 19) 29 rfl 0 3 i0 (.int .i64 0) 1 8 Tryd.underlying29 hi hz0 hz1 hz2 rfl (by decide) (.slice ao k cp) k (ints told) rfl HO.out.row ⟨w.heap.size, 0, none⟩ 1 1 (by decide) [.int .i64 n] rfl rfl NEW.out (ints_oneCell .i64 [n]) (by unfold maxLen; omega) (by omega) (Nat.zero_le _) ?_; intro g' c' w' ho hg hn'; have m' := Moves.grown HO.out.tag hg; have q6 := Q6.out w' (by simpa using m'); have z6 := Z6.out w' (by simpa using m'); have HNN : Hid _ := hn'; have HOO : Hid _ := ho; have HGG : Hid _ := hg; clear hn' ho m' hg)
  go_ret
  exact ⟨rfl, _, _, KEY.out _ _ HGG.out HNN.out HOO.out⟩
end
end Go.Proofs.YtmmcpjmgindpkacDoor.Take
