/-
  WHAT mach.copied AND mach.entryOf GIVE.
  Conditions: the words, the parts lie there.
-/
import Derived.Test.YtmmcpjmgindpkacDoorWent
namespace Go.Proofs.YtmmcpjmgindpkacDoor.Entry
open Go.RowKit Tab Go.Proofs.YtmmcpjmgindpkacDoor.Check Lists Img Mach Own Go.Proofs.YtmmcpjmgindpkacDoor.Inv Go.Proofs.YtmmcpjmgindpkacDoor.Frame Take Go.Proofs.YtmmcpjmgindpkacDoor.Went

/-- behind 'make' the new row has its places -/
theorem made_heap {w : World} {g n B : Nat} {xs : List Value} (h : w.ownsRow B 3 1 (.slice (some ⟨g, 0, none⟩) n n) n xs) : ∃ L : List Value, L.length = n ∧ w.heap[g]? = some (.cells L.toArray 3 (0, 0)) := by
  rcases h.2 with ⟨h', _⟩ | ⟨g', cap', cur, h', _, hg, _, _, hs, _⟩
  · simp at h'
  · simp only [Value.slice.injEq, Option.some.injEq, Addr.mk.injEq, and_true, true_and] at h'
    obtain ⟨rfl, rfl⟩ := h'
    exact ⟨cur.toList, by simpa using hs, by simpa using hg⟩

/-- behind 'copy' it holds the numbers -/
theorem owns_copied {w : World} {g n B : Nat} {L R : List Value} (hB : B ≤ g) (hn : n ≤ maxLen) (hR : R.length = n) (hL : L.length = n) (h : w.heap[g]? = some (.cells (splice L 0 R).toArray 3 (0, 0))) :
    w.ownsRow B 3 1 (.slice (some ⟨g, 0, none⟩) n n) n R := by
  have e : splice L 0 R = R := by simp [splice, hR, hL]
  rw [e] at h
  exact ⟨by simp [hR], .inr ⟨g, n, _, rfl, hB, h, Nat.le_refl _, hn, by simp [hR], by simp [← hR]⟩⟩

set_option maxRecDepth 100000 in
theorem copied (l : List Int) (hl : l.length ≤ 250) (ao : Option Addr) (c : Nat) (w : World)
    (src : 0 < l.length → ∃ ad, ao = some ad ∧ ∀ w', Below w.heap.size w w' → ∀ j u, (ints l)[j]? = some u → w'.cell? (ad.add j) = some u) :
    Calls Tryd.prog 34 #[.slice ao l.length c] w fun e w' => e = .returned (.slice (some ⟨w.heap.size, 0, none⟩) l.length l.length) ∧ Below w.heap.size w w' ∧ w'.ownsRow w.heap.size 3 1 (.slice (some ⟨w.heap.size, 0, none⟩) l.length l.length) l.length (ints l) := by
  obtain ⟨i0, hi, hz0, hz1, hz2⟩ := info_parts info3
  have s1 : (Tryd.prog.info? 3).map (·.size) = some 1 := by rw [hi]; simp [hz1]
  obtain ⟨n, hn⟩ : ∃ n, n = l.length := ⟨_, rfl⟩
  obtain ⟨X, hX⟩ : ∃ X, X = ints l := ⟨_, rfl⟩
  have HXL : Hid (X.length = n) := by rw [hX, hn]; exact ints_length l
  have H1 : ∀ u ∈ X, u.oneCell' = true := by rw [hX]; exact ints_oneCell .i64 l
  rw [← hX] at src ⊢
  rw [← hn] at src hl ⊢
  have SRC : Hid _ := src
  have hnI : (n : Int) ≤ 250 := by omega
  have hmx : n ≤ maxLen := by unfold maxLen; omega
  clear hX hn src
  go_enter Tryd.func34, Tryd.ntmps34
  go_wp2_with (first
    | (at_make; refine wpList_make_full _ rfl _ _ 29 rfl w.heap.size 3 i0 (.int .i64 0) 1 Tryd.underlying29 hi hz0 hz1 .i64 .i64 _ _ n rfl rfl rfl rfl (by rw [hz2]; omega) hmx (Nat.le_refl _) ?_; intro w4 hown4 hgrow4; obtain ⟨L, hL, hg4⟩ := made_heap hown4; have hb4 := (Below.refl w.heap.size w).grown hgrow4 (Nat.le_refl _) (by simp); have HL : Hid _ := hL; clear hL hown4)
    | ((with_reducible show wpList _ _ _ ({ dst := some 9, op := _, type := _, pos := _, after := _, guard := _ } :: _) _ _); refine wpList_copy_splice rfl (.tmp 7) (.tmp 8) 29 29 rfl 3 Tryd.underlying29 s1 _ _ n n n c rfl rfl w.heap.size 0 L 3 hg4 X (by rw [HXL.out]; exact (Nat.min_self _).symm) (fun hp => ⟨rfl, (SRC.out (by rw [← HXL.out]; exact hp)).imp fun ad hd => ⟨hd.1, hd.2 _ hb4⟩⟩) (by rw [HXL.out, HL.out]; omega) H1 w.heap.size w hb4 (Nat.le_refl _) ?_; intro w5 hg5 hb5; have own5 := owns_copied (B := w.heap.size) (Nat.le_refl _) hmx HXL.out HL.out hg5.out))
  go_ret
  exact ⟨rfl, hb5, own5⟩

set_option maxRecDepth 100000 in
theorem entryOf_no (ao : Option Addr) (len cap : Nat) (hlen : len ≤ 5) (P : Nat → PartD) (hel : ∀ k, k < len → (P k).el ≤ 8) (a b : Int) (w : World) (hin : Parts w ao len P) (h : ¬ ((0 ≤ a ∧ a < len) ∧ (0 ≤ b ∧ b < (P a.toNat).el))) :
    Calls Tryd.prog 33 #[.slice ao len cap, .int .i64 a, .int .i64 b] w fun e w' => e = .returned (.tuple #[.agg #[.int .i64 0, .int .i64 0], .bool false]) ∧ w' = w.alloc (.cells #[.int .i64 0, .int .i64 0] 52) := by
  have hlI : (len : Int) ≤ 5 := by omega
  by_cases ha : 0 ≤ a ∧ a < len
  · obtain ⟨k, rfl⟩ : ∃ k : Nat, a = k := ⟨a.toNat, by omega⟩
    have hk : k < len := by omega
    rw [Int.toNat_natCast] at h
    obtain ⟨bl, off, rfl, hbl, _, t1, _, _⟩ := Parts_at hin hk
    have u1 : ∀ o, (w.alloc o).cell? ⟨bl, off + k * 4 + 1, none⟩ = some (.slice (P k).ea (P k).el (P k).ec) := fun o => (World.cell?_alloc_past o _ _ hbl).trans t1
    have helI : ((P k).el : Int) ≤ 8 := by have := hel k hk; omega
    have hkI : (k : Int) < len := by omega
    have hb : b < 0 ∨ (0 ≤ b ∧ ((P k).el : Int) ≤ b) := by omega
    obtain ⟨el, eel⟩ : ∃ x, x = (P k).el := ⟨_, rfl⟩
    rw [← eel] at u1 helI hb
    clear h ha hin t1 hel hlen eel
    rcases hb with c0 | ⟨c0, c1⟩
    all_goals
      go_enter Tryd.func33, Tryd.ntmps33
      go_wp2
      exact bodyPost_ret (v := .tuple #[.agg #[.int .i64 0, .int .i64 0], .bool false]) (by simp [results, Tryd.results33, go_sem]) rfl ⟨rfl, rfl⟩
  · rcases (show a < 0 ∨ (0 ≤ a ∧ (len : Int) ≤ a) by omega) with c0 | ⟨c0, c1⟩
    all_goals
      clear h ha hin hel hlen
      go_enter Tryd.func33, Tryd.ntmps33
      go_wp2
      exact bodyPost_ret (v := .tuple #[.agg #[.int .i64 0, .int .i64 0], .bool false]) (by simp [results, Tryd.results33, go_sem]) rfl ⟨rfl, rfl⟩

set_option maxRecDepth 100000 in
theorem entryOf_ok (ao : Option Addr) (len cap : Nat) (hlen : len ≤ 5) (P : Nat → PartD) (k i : Nat) (hk : k < len) (hi : i < (P k).el) (hel : (P k).el ≤ 8) (w : World) (hin : Parts w ao len P) :
    Calls Tryd.prog 33 #[.slice ao len cap, .int .i64 k, .int .i64 i] w fun e w' => e = .returned (.tuple #[.agg #[.int .i64 ((P k).ats i), .int .i64 ((P k).prs i)], .bool true]) ∧ w' = w.alloc (.cells #[.int .i64 ((P k).ats i), .int .i64 ((P k).prs i)] 52) := by
  have hlI : (len : Int) ≤ 5 := by omega
  obtain ⟨bl, off, rfl, hbl, _, t1, _, _⟩ := Parts_at hin hk
  obtain ⟨bl2, off2, e2, t2, t3⟩ := (hin k hk).2.2 i hi
  have hbl2 := World.block_lt_of_cell? w _ t2
  have u1 : ∀ o, (w.alloc o).cell? ⟨bl, off + k * 4 + 1, none⟩ = some (.slice (some ⟨bl2, off2, none⟩) (P k).el (P k).ec) := fun o => (World.cell?_alloc_past o _ _ hbl).trans (by rw [t1, e2])
  have u2 : ∀ o, (w.alloc o).cell? ⟨bl2, off2 + i * 2, none⟩ = some (.int .i64 ((P k).ats i)) := fun o => (World.cell?_alloc_past o _ _ hbl2).trans t2
  have u3 : ∀ o, (w.alloc o).cell? ⟨bl2, off2 + i * 2 + 1, none⟩ = some (.int .i64 ((P k).prs i)) := fun o => (World.cell?_alloc_past o _ _ hbl2).trans t3
  have helI : ((P k).el : Int) ≤ 8 := by omega
  have hkI : (k : Int) < len := by omega
  have hiI : (i : Int) < (P k).el := by omega
  obtain ⟨el, eel⟩ : ∃ x, x = (P k).el := ⟨_, rfl⟩
  obtain ⟨ec, eec⟩ : ∃ x, x = (P k).ec := ⟨_, rfl⟩
  obtain ⟨at_, eat⟩ : ∃ x, x = (P k).ats i := ⟨_, rfl⟩
  obtain ⟨pr, epr⟩ : ∃ x, x = (P k).prs i := ⟨_, rfl⟩
  rw [← eel] at u1 helI hiI
  rw [← eec] at u1
  rw [← eat] at u2 ⊢
  rw [← epr] at u3 ⊢
  clear hin t1 t2 t3 e2 hel hlen eel eec eat epr hi hk
  go_enter Tryd.func33, Tryd.ntmps33
  go_wp2
  exact bodyPost_ret (v := .tuple #[.agg #[.int .i64 at_, .int .i64 pr], .bool true]) (by simp [results, Tryd.results33, go_sem]) rfl ⟨rfl, rfl⟩
end Go.Proofs.YtmmcpjmgindpkacDoor.Entry
