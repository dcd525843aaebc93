/-
  WHAT mem.Store GIVES, for every image, every list of numbers, every part, place and number: each call returns, and lays new memory alone.
  Conditions: the table 'code.bounds' lies there, the image's parts and the numbers.
-/
import Derived.Test.YthjfnpbdmknokacDoorLoad
import Derived.Laws.CopyOwn
import Derived.OwnWalk
namespace Go.Proofs.YthjfnpbdmknokacDoor.Store
open Go.RowKit Tab Go.Proofs.YthjfnpbdmknokacDoor.Check Lists Go.Proofs.YthjfnpbdmknokacDoor.Read Img Look Go.Proofs.YthjfnpbdmknokacDoor.Load

/-- the first n numbers, as cells -/
def row (z : Nat → Int) (n : Nat) : List Value := (List.range n).map fun i => .int .i64 (z i)

theorem row_length (z : Nat → Int) (n : Nat) : (row z n).length = n := by simp [row]
theorem row_at (z : Nat → Int) (n i : Nat) (hi : i < n) : (row z n)[i]? = some (.int .i64 (z i)) := by simp [row, hi]
theorem row_one (z : Nat → Int) (n : Nat) : ∀ u ∈ row z n, u.oneCell' = true := by
  intro u hu
  simp only [row, List.mem_map] at hu
  obtain ⟨i, _, rfl⟩ := hu
  rfl
/-- where numbers lie, their row is read -/
theorem row_cells {w : World} {bl off n : Nat} {z : Nat → Int} (h : ∀ j, j < n → w.cell? ⟨bl, off + j, none⟩ = some (.int .i64 (z j))) : ∀ j u, (row z n)[j]? = some u → w.cell? ((⟨bl, off, none⟩ : Addr).add j) = some u := by
  intro j u hu
  have hj : j < n := by
    have := (List.getElem?_eq_some_iff.1 hu).1
    rwa [row_length] at this
  rw [row_at z n j hj] at hu
  rw [Go.WideShapes.add_plain, h j hj]
  exact hu

theorem own_form {w : World} {B : Nat} {e : TypeId} {size n : Nat} {v : Value} {xs : List Value} (h : w.ownsRow B e size v n xs) (hn : 0 < n) : ∃ g cap, v = .slice (some ⟨g, 0, none⟩) n cap ∧ B ≤ g ∧ g < w.heap.size := by
  rcases h.2 with ⟨_, h0⟩ | ⟨g, cap, cur, rfl, hb, hg, _⟩
  · omega
  · exact ⟨g, cap, rfl, hb, (Array.getElem?_eq_some_iff.1 hg).1⟩

/-- P3.3: what a store is refused with -/
def storeFault (P : Nat → PartD) (len : Nat) (z : Nat → Int) (dlen : Nat) (p t n : Int) : Int := if ownFault P len z dlen p t = 0 then wordFault n else ownFault P len z dlen p t

/-- five ways that it can go -/
theorem ways (P : Nat → PartD) (len : Nat) (z : Nat → Int) (dlen : Nat) (p t n : Int) :
    (∃ r, dataFault P len z dlen = r ∧ r ≠ 0 ∧ ownFault P len z dlen p t = r ∧ storeFault P len z dlen p t n = r) ∨
    (dataFault P len z dlen = 0 ∧ ¬ (0 ≤ p ∧ p < len) ∧ ownFault P len z dlen p t = 5 ∧ storeFault P len z dlen p t n = 5) ∨
    (dataFault P len z dlen = 0 ∧ ∃ k : Nat, p = k ∧ k < len ∧ ¬ ((P k).lo ≤ t ∧ t < (P k).hi) ∧ ownFault P len z dlen p t = 9 ∧ storeFault P len z dlen p t n = 9) ∨
    (dataFault P len z dlen = 0 ∧ ∃ k j : Nat, p = k ∧ t = j ∧ k < len ∧ ((P k).lo ≤ t ∧ t < (P k).hi) ∧ j < dlen ∧ ¬ (0 ≤ n ∧ n ≤ 65535) ∧ ownFault P len z dlen p t = 0 ∧ storeFault P len z dlen p t n = 2) ∨
    (dataFault P len z dlen = 0 ∧ ∃ k j : Nat, p = k ∧ t = j ∧ k < len ∧ ((P k).lo ≤ t ∧ t < (P k).hi) ∧ j < dlen ∧ (0 ≤ n ∧ n ≤ 65535) ∧ ownFault P len z dlen p t = 0 ∧ storeFault P len z dlen p t n = 0) := by
  rcases Load.ways P len z dlen p t with ⟨r, er, hr, eo⟩ | ⟨er, hp, eo⟩ | ⟨er, k, hp, hk, ht, eo⟩ | ⟨er, k, j, hp, hj0, hk, ht, hj, eo⟩
  · exact .inl ⟨r, er, hr, eo, by rw [storeFault, eo, if_neg hr]⟩
  · exact .inr (.inl ⟨er, hp, eo, by rw [storeFault, eo, if_neg (by decide)]⟩)
  · exact .inr (.inr (.inl ⟨er, k, hp, hk, ht, eo, by rw [storeFault, eo, if_neg (by decide)]⟩))
  · by_cases hn : 0 ≤ n ∧ n ≤ 65535
    · exact .inr (.inr (.inr (.inr ⟨er, k, j, hp, hj0, hk, ht, hj, hn, eo, by rw [storeFault, if_pos eo, wordFault, if_pos hn]⟩)))
    · exact .inr (.inr (.inr (.inl ⟨er, k, j, hp, hj0, hk, ht, hj, hn, eo, by rw [storeFault, if_pos eo, wordFault, if_neg hn]⟩)))

theorem store_bad (ao : Option Addr) (len cap : Nat) (hlen : len ≤ maxLen) (P : Nat → PartD) (da : Option Addr) (dlen dcap : Nat) (z : Nat → Int) (p t n : Int) (w : World) (hl : Lies w) (hin : Parts w ao len P) (hd : Ints w da dlen z) (hbad : storeFault P len z dlen p t n ≠ 0) :
    Calls Tryd.prog 6 #[.agg #[.slice ao len cap], .slice da dlen dcap, .int .i64 p, .int .i64 t, .int .i64 n] w fun e w' => e = .returned (.tuple #[.slice none 0 0, .int .i64 (storeFault P len z dlen p t n)]) ∧ Below w.heap.size w w' := by
  have hb0 := below1 w (.cells #[.slice ao len cap] 24)
  have hl1 := Lies_below hl hb0
  have hin1 := Parts_below hin hb0
  have hd1 := Ints_below hd hb0
  rcases ways P len z dlen p t n with ⟨r, er, hr, eo, es⟩ | ⟨er, hp, eo, es⟩ | ⟨er, k, rfl, hk, ht, eo, es⟩ | ⟨er, k, j, rfl, rfl, hk, ht, hj, hn, eo, es⟩ | ⟨er, k, j, rfl, rfl, hk, ht, hj, hn, eo, es⟩
  · rw [es]
    have k32 : ∀ w, Lies w → Parts w ao len P → Ints w da dlen z → _ := fun w h h' h'' => lookAs_bad ao len cap hlen P da dlen dcap z p w h h' h'' r er hr
    have hr2 : (r == 0) = false := by simpa using hr
    clear er eo es hl hin hd hlen hbad
    go_enter Tryd.func6, Tryd.ntmps6
    go_wp2_with (go_at_call 10; refine (k32 _ hl1 hin1 hd1).mono ?_; rintro e w1 ⟨rfl, hb1⟩; have hb2 := hb0.trans (hb1.mono hb0.size); clear hb1)
    go_ret2
    exact ⟨rfl, hb2⟩
  · rw [es]
    have k32 : ∀ w, Lies w → Parts w ao len P → Ints w da dlen z → _ := fun w h h' h'' => lookAs_none ao len cap hlen P da dlen dcap z p w h h' h'' er hp
    clear er eo es hl hin hd hlen hp hbad
    go_enter Tryd.func6, Tryd.ntmps6
    go_wp2_with (go_at_call 10; refine (k32 _ hl1 hin1 hd1).mono ?_; rintro e w1 ⟨rfl, hb1⟩; have hb2 := hb0.trans (hb1.mono hb0.size); clear hb1)
    go_ret2
    exact ⟨rfl, hb2⟩
  · rw [es]
    have k32 : ∀ w, Lies w → Parts w ao len P → Ints w da dlen z → _ := fun w h h' h'' => lookAs_ok ao len cap hlen P da dlen dcap z k w h h' h'' er hk
    have k37 := fun b0 b1 v w h0 h1 => look_edge t (P k).lo (P k).hi b0 b1 v w h0 h1 ht
    clear er eo es hl hin hd hlen ht hbad
    go_enter Tryd.func6, Tryd.ntmps6
    go_wp2_with (first
      | (go_at_call 10; refine (k32 _ hl1 hin1 hd1).mono ?_; rintro e w1 ⟨hb1, b0, b1, b2, rfl, c0, c1, c2⟩; have hb2 := hb0.trans (hb1.mono hb0.size); clear hb1)
      | (go_at_call 13; refine (k37 _ _ _ _ c0 c1).mono ?_; rintro e w2 ⟨rfl, rfl⟩))
    go_ret2
    exact ⟨rfl, hb2⟩
  · rw [es]
    have k32 : ∀ w, Lies w → Parts w ao len P → Ints w da dlen z → _ := fun w h h' h'' => lookAs_ok ao len cap hlen P da dlen dcap z k w h h' h'' er hk
    have k37 := fun b0 b1 b2 bl off w h0 h1 h2 h3 => look_ok j dlen dcap b0 b1 b2 bl off (P k).lo (P k).hi (z j) w h0 h1 h2 h3 ht.1 ht.2 (by omega)
    have keep : ∀ w', Below w.heap.size w w' → Ints w' da dlen z := fun w' hb => Ints_below hd hb
    have d : decide (0 ≤ n ∧ n ≤ 65535) = false := decide_eq_false hn
    clear er eo es hl hin hd hlen ht hbad hn
    go_enter Tryd.func6, Tryd.ntmps6
    go_wp2_with (first
      | (go_at_call 10; refine (k32 _ hl1 hin1 hd1).mono ?_; rintro e w1 ⟨hb1, b0, b1, b2, rfl, c0, c1, c2⟩; have hb2 := hb0.trans (hb1.mono hb0.size); clear hb1; obtain ⟨bl, off, rfl, hc⟩ := keep _ hb2 j hj; have c3 := hc j hj; clear hc)
      | (go_at_call 13; refine (k37 _ _ _ _ _ _ c0 c1 c2 c3).mono ?_; rintro e w2 ⟨rfl, rfl⟩)
      | (go_at_call 11; refine (is _ _).mono ?_; rintro e w3 ⟨rfl, rfl⟩))
    go_ret2
    exact ⟨rfl, hb2⟩
  · exact absurd es hbad

/-- behind 'make' the new row has its places -/
theorem made_heap {w : World} {g n B : Nat} {xs : List Value} (h : w.ownsRow B 3 1 (.slice (some ⟨g, 0, none⟩) n n) n xs) : ∃ L : List Value, L.length = n ∧ w.heap[g]? = some (.cells L.toArray 3 (0, 0)) := by
  rcases h.2 with ⟨h', _⟩ | ⟨g', cap', cur, h', _, hg, _, _, hs, _⟩
  · simp at h'
  · simp only [Value.slice.injEq, Option.some.injEq, Addr.mk.injEq, and_true, true_and] at h'
    obtain ⟨rfl, rfl⟩ := h'
    exact ⟨cur.toList, by simpa using hs, by simpa using hg⟩

/-- behind 'copy' it holds the numbers -/
theorem owns_copied {w : World} {g n B : Nat} {L R : List Value} (hB : B ≤ g) (hn : n ≤ maxLen) (hR : R.length = n) (hL : L.length = n) (h : w.heap[g]? = some (.cells (splice L 0 R).toArray 3 (0, 0))) :
    w.ownsRow B 3 1 (.slice (some ⟨g, 0, none⟩) n n) n R := by
  have e : splice L 0 R = R := by simp [splice, hR, hL]
  rw [e] at h
  exact ⟨by simp [hR], .inr ⟨g, n, _, rfl, hB, h, Nat.le_refl _, hn, by simp [hR], by simp [← hR]⟩⟩

set_option maxHeartbeats 1000000 in
theorem store_ok (ao : Option Addr) (len cap : Nat) (hlen : len ≤ maxLen) (P : Nat → PartD) (da : Option Addr) (dlen dcap : Nat) (z : Nat → Int) (k j : Nat) (n : Int) (w : World) (hl : Lies w) (hin : Parts w ao len P) (hd : Ints w da dlen z)
    (er : dataFault P len z dlen = 0) (hk : k < len) (ht : (P k).lo ≤ (j : Int) ∧ (j : Int) < (P k).hi) (hn : 0 ≤ n ∧ n ≤ 65535) :
    Calls Tryd.prog 6 #[.agg #[.slice ao len cap], .slice da dlen dcap, .int .i64 k, .int .i64 j, .int .i64 n] w fun e w' => Below w.heap.size w w' ∧ ∃ v, e = .returned (.tuple #[v, .int .i64 0]) ∧ w'.ownsRow w.heap.size 3 1 v dlen ((row z dlen).set j (.int .i64 n)) := by
  have hb0 := below1 w (.cells #[.slice ao len cap] 24)
  have hl1 := Lies_below hl hb0
  have hin1 := Parts_below hin hb0
  have hd1 := Ints_below hd hb0
  have hins := inside er hk
  have hj : j < dlen := by omega
  have hdl : dlen ≤ 250 := hins.2.2
  have hjI : (j : Int) < dlen := by omega
  have hdI : (dlen : Int) ≤ 250 := by omega
  have k32 : ∀ w, Lies w → Parts w ao len P → Ints w da dlen z → _ := fun w h h' h'' => lookAs_ok ao len cap hlen P da dlen dcap z k w h h' h'' er hk
  have k37 := fun b0 b1 b2 bl off w h0 h1 h2 h3 => look_ok j dlen dcap b0 b1 b2 bl off (P k).lo (P k).hi (z j) w h0 h1 h2 h3 ht.1 ht.2 (by omega)
  have keep : ∀ w', Below w.heap.size w w' → Ints w' da dlen z := fun w' hb => Ints_below hd hb
  obtain ⟨i0, hi, hz0, hz1, hz2⟩ := info_parts info3
  have s1 : (Tryd.prog.info? 3).map (·.size) = some 1 := by rw [hi]; simp [hz1]
  obtain ⟨R, hR⟩ : ∃ R, R = row z dlen := ⟨_, rfl⟩
  have HRL : Hid (R.length = dlen) := by rw [hR]; exact row_length z dlen
  have HRJ : Hid (R[j]? = some (.int .i64 (z j))) := by rw [hR]; exact row_at z dlen j hj
  have H1 : ∀ u ∈ R, u.oneCell' = true := by rw [hR]; exact row_one z dlen
  have src : ∀ w', Below w.heap.size w w' → ∀ bl off, da = some ⟨bl, off, none⟩ → ∀ i u, R[i]? = some u → w'.cell? ((⟨bl, off, none⟩ : Addr).add i) = some u := by
    intro w' hb bl off e
    rw [hR]
    obtain ⟨bl', off', e', hc⟩ := keep w' hb j hj
    rw [e] at e'
    simp only [Option.some.injEq, Addr.mk.injEq, and_true] at e'
    obtain ⟨rfl, rfl⟩ := e'
    exact row_cells hc
  rw [← hR]
  have hmx : dlen ≤ maxLen := by unfold maxLen; omega
  clear er hl hin hd hlen ht hins hR
  go_enter Tryd.func6, Tryd.ntmps6
  go_wp2_with (first
    | (go_at_call 10; refine (k32 _ hl1 hin1 hd1).mono ?_; rintro e w1 ⟨hb1, b0, b1, b2, rfl, c0, c1, c2⟩; have hb2 := hb0.trans (hb1.mono hb0.size); clear hb1; obtain ⟨bl, off, rfl, hc⟩ := keep _ hb2 j hj; have c3 := hc j hj; clear hc)
    | (go_at_call 13; refine (k37 _ _ _ _ _ _ c0 c1 c2 c3).mono ?_; rintro e w2 ⟨rfl, rfl⟩; clear c0 c1 c2 c3)
    | (go_at_call 11; refine (is _ _).mono ?_; rintro e w3 ⟨rfl, rfl⟩)
    | (at_make; refine wpList_make_full _ rfl _ _ 29 rfl w.heap.size 3 i0 (.int .i64 0) 1 Tryd.underlying29 hi hz0 hz1 .i64 .i64 _ _ dlen rfl rfl rfl rfl (by rw [hz2]; omega) hmx hb2.size ?_; intro w4 hown4 hgrow4; obtain ⟨L, hL, hg4⟩ := made_heap hown4; have hb4 := hb2.grown hgrow4 hb2.size (by simp); have HL : Hid _ := hL; clear hL hown4)
    | ((with_reducible show wpList _ _ _ ({ dst := some 44, op := _, type := _, pos := _, after := _, guard := _ } :: _) _ _); refine wpList_copy_splice rfl (.tmp 42) (.tmp 43) 29 29 rfl 3 Tryd.underlying29 s1 _ _ dlen dlen dlen dcap rfl rfl w3.heap.size 0 L 3 hg4 R (by rw [HRL.out]; exact (Nat.min_self _).symm) (fun _ => ⟨rfl, ⟨bl, off, none⟩, rfl, src _ hb4 bl off rfl⟩) (by rw [HRL.out, HL.out]; omega) H1 w.heap.size w hb4 hb2.size ?_; intro w5 hg5 hb5; have own5 := owns_copied (B := w.heap.size) hb2.size hmx HRL.out HL.out hg5.out; have c5 := (own5.cellAt j (by omega)).trans HRJ.out; have f5 := own5.frozenAt j))
  go_ret2
  exact ⟨hb5.setCell (p := ⟨w3.heap.size, j, none⟩) hb2.size (.int .i64 n), _, rfl, (own5.stored j (.int .i64 n)).1⟩

end Go.Proofs.YthjfnpbdmknokacDoor.Store
