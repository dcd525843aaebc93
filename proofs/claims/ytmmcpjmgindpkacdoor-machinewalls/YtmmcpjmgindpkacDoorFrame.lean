/-
  WHAT mach.last, take, takes, put, lookAs AND ITS CLOSURE GIVE.
  Conditions: each contract's own hypotheses (what it reads lies there).
-/
import Derived.Test.YtmmcpjmgindpkacDoorInv
import Derived.Deep.QuietTactic
import Derived.BigQuiet
namespace Go.Proofs.YtmmcpjmgindpkacDoor.Frame
open Go.RowKit Tab Go.Proofs.YtmmcpjmgindpkacDoor.Check Lists Img Mach Own Go.Proofs.YtmmcpjmgindpkacDoor.Inv

theorem last (R g n k cap : Nat) (w : World) (hk : n - 1 = k) (hn : 0 < n) (hnc : n ≤ 20) (c : w.cell? ⟨R, 2, none⟩ = some (.slice (some ⟨g, 0, none⟩) n cap)) :
    Calls Tryd.prog 36 #[.pointer (some ⟨R, 0, none⟩)] w fun e w' => e = .returned (.pointer (some ⟨g, k * 12, none⟩)) ∧ ∃ j, w' = w.drewN j := by
  subst hk
  have hnI : (0 : Int) < n := by omega
  have hnJ : (n : Int) ≤ 20 := by omega
  go_enter Tryd.func36, Tryd.ntmps36
  go_wp2
  go_quiet (fail)
  go_wp2
  go_ret
  exact ⟨rfl, _, rfl⟩

theorem takes (op a b c : Int) (w : World) (h1 : 1 ≤ op) (h15 : op ≤ 15) (hb : 0 ≤ b) (hc : 0 ≤ c) :
    Calls Tryd.prog 38 #[.agg #[.int .i64 op, .int .i64 a, .int .i64 b, .int .i64 c]] w fun e w' => e = .returned (.int .i64 (needs op b c)) ∧ Below w.heap.size w w' := by
  have eb : ((b.toNat : Nat) : Int) = b := by omega
  have ec : ((c.toNat : Nat) : Int) = c := by omega
  rcases (show op = 1 ∨ op = 2 ∨ op = 3 ∨ op = 4 ∨ op = 5 ∨ op = 6 ∨ op = 7 ∨ op = 8 ∨ op = 9 ∨ op = 10 ∨ op = 11 ∨ op = 12 ∨ op = 13 ∨ op = 14 ∨ op = 15 by omega) with rfl | rfl | rfl | rfl | rfl | rfl | rfl | rfl | rfl | rfl | rfl | rfl | rfl | rfl | rfl
  all_goals
    have EB : Hid _ := eb
    have EC : Hid _ := ec
    clear eb ec
    go_enter Tryd.func38, Tryd.ntmps38
    go_wp2
    go_ret
    exact ⟨by simp [needs, EB.out, EC.out], below1 _ _⟩

theorem look_ok (k dlen b0 b1 D : Nat) (lo hi : Int) (w : World) (h0 : w.cell? ⟨b0, 2, none⟩ = some (.int .i64 lo)) (h1 : w.cell? ⟨b0, 3, none⟩ = some (.int .i64 hi))
    (h2 : w.cell? ⟨b1, 0, none⟩ = some (.slice (some ⟨D, 0, none⟩) dlen dlen)) (c0 : lo ≤ k) (c1 : (k : Int) < hi) (c2 : (k : Int) < dlen) :
    Calls Tryd.prog 45 #[.int .i64 k, .pointer (some ⟨b0, 0, none⟩), .pointer (some ⟨b1, 0, none⟩)] w fun e w' => e = .returned (.pointer (some ⟨D, k, none⟩)) ∧ w' = w := by
  go_enter Tryd.func45, Tryd.ntmps45
  go_wp2
  go_ret
  exact ⟨rfl, rfl⟩

theorem look_edge (t lo hi : Int) (b0 : Nat) (v : Value) (w : World) (h0 : w.cell? ⟨b0, 2, none⟩ = some (.int .i64 lo)) (h1 : w.cell? ⟨b0, 3, none⟩ = some (.int .i64 hi)) (c : ¬ (lo ≤ t ∧ t < hi)) :
    Calls Tryd.prog 45 #[.int .i64 t, .pointer (some ⟨b0, 0, none⟩), v] w fun e w' => e = .returned (.pointer none) ∧ w' = w := by
  rcases (show t < lo ∨ (lo ≤ t ∧ hi ≤ t) by omega) with c0 | ⟨c0, c1⟩
  all_goals
    clear c
    go_enter Tryd.func45, Tryd.ntmps45
    go_wp2
    go_ret
    exact ⟨rfl, rfl⟩

theorem words_form {own : Nat → Tag} {w : World} {v : Value} {ws l : List Int} {t : Tag} (h : WordsAt own w v ws l t) : ∃ ao cp, v = .slice ao ws.length cp ∧ (ao = none → ws = [] ∧ cp = 0) ∧ (∀ a, ao = some a → ∃ g, a = ⟨g, 0, none⟩ ∧ own g = t) ∧ ws.length ≤ cp ∧ cp ≤ maxLen := by
  rcases h with ⟨h, h', _⟩ | ⟨g, cap, cur, hv, ht, _, h1, h2, _⟩
  · subst h h'
    exact ⟨none, 0, rfl, fun _ => ⟨rfl, rfl⟩, fun a ha => (by cases ha), Nat.le_refl _, (by unfold maxLen; omega)⟩
  · exact ⟨_, _, hv, fun h => (by cases h), fun a ha => ⟨g, (Option.some.inj ha).symm, ht⟩, by omega, h2⟩

section
variable {own : Nat → Tag} {w1 w : World} {R D g cap : Nat} {pS lS vT vC : Value} {fuel : Int} {f : Fr} {v : Value} {F : List (Fr × Value)} {l data told : List Int} {C : List (Rec × Value)}

theorem put_full (h : Inv own w1 w R D pS lS (.slice (some ⟨g, 0, none⟩) (F.length + 1) cap) vT vC fuel ((f, v) :: F) l data told C) (b m : Nat) (hm : m ≤ 2) (hw : f.words.length ≤ 40) (hf : ¬ f.words.length + m ≤ 40) :
    Calls Tryd.prog 46 #[.pointer (some ⟨g, F.length * 12, none⟩), .slice (some ⟨b, 0, none⟩) m m] w fun e w' => e = .returned (.int .i64 4) ∧ w' = w := by
  have c10 := h.top_cell 10 (u := v) (by simp [frCells, ints, h.rooms.1.2])
  obtain ⟨ao, cp, rfl, _, _⟩ := words_form h.rooms.1.1
  have hmI : (m : Int) ≤ 2 := by omega
  have hwI : (f.words.length : Int) ≤ 40 := by omega
  have hfI : (40 : Int) < (f.words.length : Int) + m := by omega
  obtain ⟨n, hn⟩ : ∃ n, n = f.words.length := ⟨_, rfl⟩
  rw [← hn] at c10 hwI hfI
  clear h hw hf hm hn
  go_enter Tryd.func46, Tryd.ntmps46
  go_wp2
  go_ret
  exact ⟨rfl, rfl⟩

set_option maxRecDepth 100000 in
theorem put (h : Inv own w1 w R D pS lS (.slice (some ⟨g, 0, none⟩) (F.length + 1) cap) vT vC fuel ((f, v) :: F) l data told C) (b : Nat) (news : List Int) (hm0 : 0 < news.length) (hm : news.length ≤ 2) (hw : f.words.length ≤ 40) (hf : f.words.length + news.length ≤ 40)
    (hb : ∀ j u, (ints news)[j]? = some u → w.cell? ((⟨b, 0, none⟩ : Addr).add j) = some u) :
    Calls Tryd.prog 46 #[.pointer (some ⟨g, F.length * 12, none⟩), .slice (some ⟨b, 0, none⟩) news.length news.length] w fun e w' => e = .returned (.int .i64 0) ∧ ∃ own' v', Inv own' w1 w' R D pS lS (.slice (some ⟨g, 0, none⟩) (F.length + 1) cap) vT vC fuel (({ f with words := f.words ++ news }, v') :: F) [] data told C := by
  have c10 := h.top_cell 10 (u := v) (by simp [frCells, ints, h.rooms.1.2])
  have z10 := h.top_frozen (F.length * 12 + 10)
  have hO := h.rooms.1.1.owned
  have key := fun v' w' => Inv.put_set (v' := v') (w' := w') (news := news) h
  obtain ⟨ao, cp, rfl, _, _⟩ := words_form h.rooms.1.1
  obtain ⟨i0, hi, hz0, hz1, hz2⟩ := info_parts info3
  have hmI : (news.length : Int) ≤ 2 := by omega
  have hwI : (f.words.length : Int) ≤ 40 := by omega
  have hfI : (f.words.length : Int) + news.length ≤ 40 := by omega
  have hl : (ints news).length = news.length * 1 := by simp [ints]
  have h1 : ∀ u ∈ ints news, u.oneCell' = true := ints_oneCell .i64 news
  have hgf : ∀ w', Moves own (also own w.heap.size (6, F.length)) w w' (6, F.length) → w'.cell? ⟨g, F.length * 12 + 10, none⟩ = some (.slice ao f.words.length cp) ∧ w'.frozen? ⟨g, F.length * 12 + 10, none⟩ = false := by
    intro w' m
    have hbk : w'.heap[g]? = w.heap[g]? := m.block g (h.frames.row.lt g rfl).2 (by rw [h.frames.tag g rfl]; simp)
    exact ⟨(World.cell?_of_block (w := w) (a := ⟨g, F.length * 12 + 10, none⟩) hbk).trans c10, (World.frozen?_of_block (w := w) (a := ⟨g, F.length * 12 + 10, none⟩) hbk).trans z10⟩
  obtain ⟨n, hn⟩ : ∃ n, n = f.words.length := ⟨_, rfl⟩
  obtain ⟨m, hmm⟩ : ∃ m, m = news.length := ⟨_, rfl⟩
  rw [← hmm] at hm0 hm hmI hfI hf hl ⊢
  rw [← hn] at c10 hwI hfI hO hw hf hgf key
  have KEY : Hid _ := key
  have HM : Hid _ := hmm
  have HO : Hid _ := hO
  have HGF : Hid _ := hgf
  have HB : Hid _ := hb
  have HL : Hid _ := hl
  have H1 : Hid _ := h1
  clear h key hn hmm hO hgf hb hl h1
  go_enter Tryd.func46, Tryd.ntmps46
  go_wp2_with (at_builtin; refine wpList_append_fresh _ rfl (.tmp 18) (.tmp 19) 29 rfl 0 3 i0 (.int .i64 0) 1 8 Tryd.underlying29 hi hz0 hz1 hz2 rfl (by decide) (.slice ao n cp) n (ints f.words) rfl HO.out.row ⟨b, 0, none⟩ m m hm0 (ints news) rfl HL.out HB.out H1.out (by unfold maxLen; omega) (by omega) (Nat.zero_le _) ?_; intro g' c' w' ho hg hn'; obtain ⟨q0, q1⟩ := HGF.out w' (Moves.grown HO.out.tag hg); have HNN : Hid _ := hn'; have HOO : Hid _ := ho; clear hn' ho)
  go_ret
  exact ⟨rfl, _, _, KEY.out _ _ hg HNN.out (by rw [← HM.out]; exact HOO.out)⟩
end
end Go.Proofs.YtmmcpjmgindpkacDoor.Frame
