/-
  WHAT COMES OF AN INSTRUCTION, IN MEMORY AND PLAIN; and mach.put so.
  Conditions: each contract's own hypotheses.
  WHAT mach.copied AND mach.entryOf GIVE.
  Conditions: the words, the parts lie there.
-/
import Derived.Test.YtmbbkabecipkaacDoorWhole3
namespace Go.Proofs.YtmbbkabecipkaacDoor.Went
open Go.RowKit Tab Go.Proofs.YtmbbkabecipkaacDoor.Check Lists Img Mach Own Go.Proofs.YtmbbkabecipkaacDoor.Inv Go.Proofs.YtmbbkabecipkaacDoor.Frame Take

/-- what came of it: it goes on, and the run lies there; or it has ended -/
structure Went (w1 : World) (R D : Nat) (pS lS : Value) (fuel : Int) (e : Ending) (w' : World) (o : (Int × Int × St) ⊕ St) : Prop where
  out : (∃ (s : St) (own : Nat → Tag) (vF vT vC : Value) (F : List (Fr × Value)) (C : List (Rec × Value)), Inv own w1 w' R D pS lS vF vT vC fuel F [] s.data s.told C ∧ F.map Prod.fst = s.rooms ∧ C.map Prod.fst = s.calls ∧ e = .returned (.int .i64 0) ∧ o = .inr s) ∨
    (∃ (n val : Int) (s : St) (own : Nat → Tag) (vT vC : Value) (C : List (Rec × Value)), Fin own w1 w' R D pS lS vT vC val s.data s.told C ∧ C.map Prod.fst = s.calls ∧ e = .returned (.int .i64 n) ∧ o = .inl (n, val, s))

theorem Went.goes {w1 : World} {R D : Nat} {pS lS : Value} {fuel : Int} {w' : World} {s : St} {own : Nat → Tag} {vF vT vC : Value} {F : List (Fr × Value)} {C : List (Rec × Value)} (h : Inv own w1 w' R D pS lS vF vT vC fuel F [] s.data s.told C) (h1 : F.map Prod.fst = s.rooms) (h2 : C.map Prod.fst = s.calls) : Went w1 R D pS lS fuel (.returned (.int .i64 0)) w' (.inr s) :=
  ⟨.inl ⟨s, own, vF, vT, vC, F, C, h, h1, h2, rfl, rfl⟩⟩

theorem Went.stops {w1 : World} {R D : Nat} {pS lS : Value} {fuel : Int} {w' : World} {n val : Int} {s : St} {own : Nat → Tag} {vT vC : Value} {C : List (Rec × Value)} (h : Fin own w1 w' R D pS lS vT vC val s.data s.told C) (h2 : C.map Prod.fst = s.calls) : Went w1 R D pS lS fuel (.returned (.int .i64 n)) w' (.inl (n, val, s)) :=
  ⟨.inr ⟨n, val, s, own, vT, vC, C, h, h2, rfl, rfl⟩⟩

section
variable {own : Nat → Tag} {w1 w w' : World} {R D g cap : Nat} {pS lS vF vT vC : Value} {fuel : Int} {f : Fr} {v : Value} {F : List (Fr × Value)} {l data told : List Int} {C : List (Rec × Value)}

theorem went_on {s : St} (h : Inv own w1 w R D pS lS vF vT vC fuel F [] data told C) (h1 : s = ⟨F.map Prod.fst, data, told, C.map Prod.fst⟩) : Went w1 R D pS lS fuel (.returned (.int .i64 0)) w (.inr s) := by
  subst h1
  exact .goes h rfl rfl

theorem went_end {s : St} {n val : Int} (h : Fin own w1 w R D pS lS vT vC val data told C) (h1 : s.data = data ∧ s.told = told ∧ s.calls = C.map Prod.fst) : Went w1 R D pS lS fuel (.returned (.int .i64 n)) w (ends n val s) := by
  obtain ⟨r, d, t, c⟩ := s
  obtain ⟨h1, h2, h3⟩ := h1
  dsimp only at h1 h2 h3
  subst h1 h2 h3
  exact .stops h rfl

/-- it returned some number -/
theorem went_ret {e : Ending} {o : (Int × Int × St) ⊕ St} (h : Went w1 R D pS lS fuel e w o) : ∃ n, e = .returned (.int .i64 n) := by
  rcases h.out with ⟨_, _, _, _, _, _, _, _, _, _, he, _⟩ | ⟨n, _, _, _, _, _, _, _, _, he, _⟩
  · exact ⟨0, he⟩
  · exact ⟨n, he⟩

theorem Inv.drew_n (h : Inv own w1 w R D pS lS vF vT vC fuel F l data told C) (j : Nat) : Inv own w1 (w.drewN j) R D pS lS vF vT vC fuel F l data told C :=
  h.moves ⟨rfl, rfl, rfl, Nat.le_refl _, fun _ _ _ => rfl, fun _ _ => rfl⟩

/-- the tape alone has moved -/
theorem Inv.same (h : Inv own w1 w R D pS lS vF vT vC fuel F l data told C) (h0 : w'.os = w.os) (h1 : w'.tape = w.tape) (h2 : w'.output = w.output) (h3 : w'.heap = w.heap) : Inv own w1 w' R D pS lS vF vT vC fuel F l data told C :=
  h.moves ⟨h0, h1, h2, Nat.le_of_eq (by rw [h3]), fun k _ _ => by rw [h3], fun _ _ => rfl⟩

theorem Fin.same {val : Int} (h : Fin own w1 w R D pS lS vT vC val data told C) (h0 : w'.os = w.os) (h1 : w'.tape = w.tape) (h2 : w'.output = w.output) (h3 : w'.heap = w.heap) : Fin own w1 w' R D pS lS vT vC val data told C := by
  have m : Moves own own w w' (9, 9) := ⟨h0, h1, h2, Nat.le_of_eq (by rw [h3]), fun k _ _ => by rw [h3], fun _ _ => rfl⟩
  obtain ⟨fv, fu, hr⟩ := h.run
  exact ⟨h.base.moves m (by decide), ⟨fv, fu, hr.moves m (by decide)⟩, h.dat.moves m (by decide), h.told.moves m (by decide), h.calls.moves m (by decide), h.notes.moves m (fun k _ e => by simp at e)⟩

theorem one_at {w : World} {b : Nat} (hb : b = w.heap.size) (n : Int) {t : TypeId} : ∀ (j : Nat) (u : Value), (ints [n])[j]? = some u → (w.alloc (.cells #[.int .i64 n] t)).cell? ((⟨b, 0, none⟩ : Addr).add j) = some u := by
  subst hb
  exact one_new n

/-- 'put' of one or two words that were laid just before -/
theorem put (h : Inv own w1 w R D pS lS (.slice (some ⟨g, 0, none⟩) (F.length + 1) cap) vT vC fuel ((f, v) :: F) l data told C) (b : Nat) (news : List Int) (n : Nat) (hn : n = news.length) (hm0 : 0 < news.length) (hm : news.length ≤ 2) (hw : f.words.length ≤ 40)
    (hb : ∀ j u, (ints news)[j]? = some u → w.cell? ((⟨b, 0, none⟩ : Addr).add j) = some u) (rm : List Fr) :
    Calls Tryd.prog 46 #[.pointer (some ⟨g, F.length * 12, none⟩), .slice (some ⟨b, 0, none⟩) n n] w fun e w' => Went w1 R D pS lS fuel e w' (puts ⟨rm, data, told, C.map Prod.fst⟩ f (F.map Prod.fst) news) := by
  subst hn
  by_cases hf : f.words.length + news.length ≤ 40
  · refine (Frame.put h b news hm0 hm hw hf hb).mono ?_
    rintro e w' ⟨rfl, own', v', h'⟩
    rw [puts, if_pos hf]
    exact went_on h' rfl
  · refine (put_full h b news.length hm hw hf).mono ?_
    rintro e w' ⟨rfl, rfl⟩
    rw [puts, if_neg hf]
    exact went_end h.fin ⟨rfl, rfl, rfl⟩

/-- nothing is put -/
theorem put_none (h : Inv own w1 w R D pS lS vF vT vC fuel ((f, v) :: F) l data told C) (hw : f.words.length ≤ 40) (rm : List Fr) : Went w1 R D pS lS fuel (.returned (.int .i64 0)) w (puts ⟨rm, data, told, C.map Prod.fst⟩ f (F.map Prod.fst) []) := by
  rw [puts, if_pos (by simpa using hw)]
  refine went_on (own := own) (F := (f, v) :: F) (C := C) (vF := vF) (vT := vT) (vC := vC) ⟨h.base, h.run, h.dat, h.frames, h.told, h.calls, ⟨⟨h.rooms.1.1.less, h.rooms.1.2⟩, h.rooms.2⟩, h.notes⟩ ?_
  simp
end
end Go.Proofs.YtmbbkabecipkaacDoor.Went

namespace Go.Proofs.YtmbbkabecipkaacDoor.Entry
open Go.RowKit Tab Go.Proofs.YtmbbkabecipkaacDoor.Check Lists Img Mach Own Go.Proofs.YtmbbkabecipkaacDoor.Inv Go.Proofs.YtmbbkabecipkaacDoor.Frame Take Go.Proofs.YtmbbkabecipkaacDoor.Went

/-- behind 'make' the new row has its places -/
theorem made_heap {w : World} {g n B : Nat} {xs : List Value} (h : w.ownsRow B 3 1 (.slice (some ⟨g, 0, none⟩) n n) n xs) : ∃ L : List Value, L.length = n ∧ w.heap[g]? = some (.cells L.toArray 3 (0, 0)) := by
  rcases h.2 with ⟨h', _⟩ | ⟨g', cap', cur, h', _, hg, _, _, hs, _⟩
  · simp at h'
  · simp only [Value.slice.injEq, Option.some.injEq, Addr.mk.injEq, and_true, true_and] at h'
    obtain ⟨rfl, rfl⟩ := h'
    exact ⟨cur.toList, by simpa using hs, by simpa using hg⟩

/-- behind 'copy' it holds the numbers -/
theorem owns_copied {w : World} {g n B : Nat} {L R : List Value} (hB : B ≤ g) (hn : n ≤ maxLen) (hR : R.length = n) (hL : L.length = n) (h : w.heap[g]? = some (.cells (splice L 0 R).toArray 3 (0, 0))) :
    w.ownsRow B 3 1 (.slice (some ⟨g, 0, none⟩) n n) n R := by
  have e : splice L 0 R = R := by simp [splice, hR, hL]
  rw [e] at h
  exact ⟨by simp [hR], .inr ⟨g, n, _, rfl, hB, h, Nat.le_refl _, hn, by simp [hR], by simp [← hR]⟩⟩

set_option maxRecDepth 100000 in
theorem copied (l : List Int) (hl : l.length ≤ 250) (ao : Option Addr) (c : Nat) (w : World)
    (src : 0 < l.length → ∃ ad, ao = some ad ∧ ∀ w', Below w.heap.size w w' → ∀ j u, (ints l)[j]? = some u → w'.cell? (ad.add j) = some u) :
    Calls Tryd.prog 34 #[.slice ao l.length c] w fun e w' => e = .returned (.slice (some ⟨w.heap.size, 0, none⟩) l.length l.length) ∧ Below w.heap.size w w' ∧ w'.ownsRow w.heap.size 3 1 (.slice (some ⟨w.heap.size, 0, none⟩) l.length l.length) l.length (ints l) := by
  obtain ⟨i0, hi, hz0, hz1, hz2⟩ := info_parts info3
  have s1 : (Tryd.prog.info? 3).map (·.size) = some 1 := by rw [hi]; simp [hz1]
  obtain ⟨n, hn⟩ : ∃ n, n = l.length := ⟨_, rfl⟩
  obtain ⟨X, hX⟩ : ∃ X, X = ints l := ⟨_, rfl⟩
  have HXL : Hid (X.length = n) := by rw [hX, hn]; exact ints_length l
  have H1 : ∀ u ∈ X, u.oneCell' = true := by rw [hX]; exact ints_oneCell .i64 l
  rw [← hX] at src ⊢
  rw [← hn] at src hl ⊢
  have SRC : Hid _ := src
  have hnI : (n : Int) ≤ 250 := by omega
  have hmx : n ≤ maxLen := by unfold maxLen; omega
  clear hX hn src
  go_enter Tryd.func34, Tryd.ntmps34
  go_wp2_with (first
    | (at_make; refine wpList_make_full _ rfl _ _ 29 rfl w.heap.size 3 i0 (.int .i64 0) 1 Tryd.underlying29 hi hz0 hz1 .i64 .i64 _ _ n rfl rfl rfl rfl (by rw [hz2]; omega) hmx (Nat.le_refl _) ?_; intro w4 hown4 hgrow4; obtain ⟨L, hL, hg4⟩ := made_heap hown4; have hb4 := (Below.refl w.heap.size w).grown hgrow4 (Nat.le_refl _) (by simp); have HL : Hid _ := hL; clear hL hown4)
    | ((with_reducible show wpList _ _ _ ({ dst := some 9, op := _, type := _, pos := _, after := _, guard := _ } :: _) _ _); refine wpList_copy_splice rfl (.tmp 7) (.tmp 8) 29 29 rfl 3 Tryd.underlying29 s1 _ _ n n n c rfl rfl w.heap.size 0 L 3 hg4 X (by rw [HXL.out]; exact (Nat.min_self _).symm) (fun hp => ⟨rfl, (SRC.out (by rw [← HXL.out]; exact hp)).imp fun ad hd => ⟨hd.1, hd.2 _ hb4⟩⟩) (by rw [HXL.out, HL.out]; omega) H1 w.heap.size w hb4 (Nat.le_refl _) ?_; intro w5 hg5 hb5; have own5 := owns_copied (B := w.heap.size) (Nat.le_refl _) hmx HXL.out HL.out hg5.out))
  go_ret
  exact ⟨rfl, hb5, own5⟩

set_option maxRecDepth 100000 in
theorem entryOf_no (ao : Option Addr) (len cap : Nat) (hlen : len ≤ 5) (P : Nat → PartD) (hel : ∀ k, k < len → (P k).el ≤ 8) (a b : Int) (w : World) (hin : Parts w ao len P) (h : ¬ ((0 ≤ a ∧ a < len) ∧ (0 ≤ b ∧ b < (P a.toNat).el))) :
    Calls Tryd.prog 33 #[.slice ao len cap, .int .i64 a, .int .i64 b] w fun e w' => e = .returned (.tuple #[.agg #[.int .i64 0, .int .i64 0], .bool false]) ∧ w' = w.alloc (.cells #[.int .i64 0, .int .i64 0] 52) := by
  have hlI : (len : Int) ≤ 5 := by omega
  by_cases ha : 0 ≤ a ∧ a < len
  · obtain ⟨k, rfl⟩ : ∃ k : Nat, a = k := ⟨a.toNat, by omega⟩
    have hk : k < len := by omega
    rw [Int.toNat_natCast] at h
    obtain ⟨bl, off, rfl, hbl, _, t1, _, _⟩ := Parts_at hin hk
    have u1 : ∀ o, (w.alloc o).cell? ⟨bl, off + k * 4 + 1, none⟩ = some (.slice (P k).ea (P k).el (P k).ec) := fun o => (World.cell?_alloc_past o _ _ hbl).trans t1
    have helI : ((P k).el : Int) ≤ 8 := by have := hel k hk; omega
    have hkI : (k : Int) < len := by omega
    have hb : b < 0 ∨ (0 ≤ b ∧ ((P k).el : Int) ≤ b) := by omega
    obtain ⟨el, eel⟩ : ∃ x, x = (P k).el := ⟨_, rfl⟩
    rw [← eel] at u1 helI hb
    clear h ha hin t1 hel hlen eel
    rcases hb with c0 | ⟨c0, c1⟩
    all_goals
      go_enter Tryd.func33, Tryd.ntmps33
      go_wp2
      exact bodyPost_ret (v := .tuple #[.agg #[.int .i64 0, .int .i64 0], .bool false]) (by simp [results, Tryd.results33, go_sem]) rfl ⟨rfl, rfl⟩
  · rcases (show a < 0 ∨ (0 ≤ a ∧ (len : Int) ≤ a) by omega) with c0 | ⟨c0, c1⟩
    all_goals
      clear h ha hin hel hlen
      go_enter Tryd.func33, Tryd.ntmps33
      go_wp2
      exact bodyPost_ret (v := .tuple #[.agg #[.int .i64 0, .int .i64 0], .bool false]) (by simp [results, Tryd.results33, go_sem]) rfl ⟨rfl, rfl⟩

set_option maxRecDepth 100000 in
theorem entryOf_ok (ao : Option Addr) (len cap : Nat) (hlen : len ≤ 5) (P : Nat → PartD) (k i : Nat) (hk : k < len) (hi : i < (P k).el) (hel : (P k).el ≤ 8) (w : World) (hin : Parts w ao len P) :
    Calls Tryd.prog 33 #[.slice ao len cap, .int .i64 k, .int .i64 i] w fun e w' => e = .returned (.tuple #[.agg #[.int .i64 ((P k).ats i), .int .i64 ((P k).prs i)], .bool true]) ∧ w' = w.alloc (.cells #[.int .i64 ((P k).ats i), .int .i64 ((P k).prs i)] 52) := by
  have hlI : (len : Int) ≤ 5 := by omega
  obtain ⟨bl, off, rfl, hbl, _, t1, _, _⟩ := Parts_at hin hk
  obtain ⟨bl2, off2, e2, t2, t3⟩ := (hin k hk).2.2 i hi
  have hbl2 := World.block_lt_of_cell? w _ t2
  have u1 : ∀ o, (w.alloc o).cell? ⟨bl, off + k * 4 + 1, none⟩ = some (.slice (some ⟨bl2, off2, none⟩) (P k).el (P k).ec) := fun o => (World.cell?_alloc_past o _ _ hbl).trans (by rw [t1, e2])
  have u2 : ∀ o, (w.alloc o).cell? ⟨bl2, off2 + i * 2, none⟩ = some (.int .i64 ((P k).ats i)) := fun o => (World.cell?_alloc_past o _ _ hbl2).trans t2
  have u3 : ∀ o, (w.alloc o).cell? ⟨bl2, off2 + i * 2 + 1, none⟩ = some (.int .i64 ((P k).prs i)) := fun o => (World.cell?_alloc_past o _ _ hbl2).trans t3
  have helI : ((P k).el : Int) ≤ 8 := by omega
  have hkI : (k : Int) < len := by omega
  have hiI : (i : Int) < (P k).el := by omega
  obtain ⟨el, eel⟩ : ∃ x, x = (P k).el := ⟨_, rfl⟩
  obtain ⟨ec, eec⟩ : ∃ x, x = (P k).ec := ⟨_, rfl⟩
  obtain ⟨at_, eat⟩ : ∃ x, x = (P k).ats i := ⟨_, rfl⟩
  obtain ⟨pr, epr⟩ : ∃ x, x = (P k).prs i := ⟨_, rfl⟩
  rw [← eel] at u1 helI hiI
  rw [← eec] at u1
  rw [← eat] at u2 ⊢
  rw [← epr] at u3 ⊢
  clear hin t1 t2 t3 e2 hel hlen eel eec eat epr hi hk
  go_enter Tryd.func33, Tryd.ntmps33
  go_wp2
  exact bodyPost_ret (v := .tuple #[.agg #[.int .i64 at_, .int .i64 pr], .bool true]) (by simp [results, Tryd.results33, go_sem]) rfl ⟨rfl, rfl⟩
end Go.Proofs.YtmbbkabecipkaacDoor.Entry
